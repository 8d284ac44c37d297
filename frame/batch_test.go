package frame_test

import (
	"bytes"
	"math/rand"
	"testing"

	"marigraph/api"
	"marigraph/frame"
)

func there(key, value string) api.Entry {
	return api.Entry{Key: []byte(key), Value: []byte(value)}
}

func gone(key string) api.Entry {
	return api.Entry{Key: []byte(key), Gone: true}
}

// sized is an entry of a key and a value of so many bytes.
func sized(key, value int, isGone bool) api.Entry {
	return api.Entry{Key: filled(key), Value: filled(value), Gone: isGone}
}

func times(n int, e api.Entry) []api.Entry {
	l := make([]api.Entry, n)
	for i := range l {
		l[i] = e
	}
	return l
}

// back is what Entries must answer of a batch of l: the Values of those that are Gone do not come back.
func back(l []api.Entry) []api.Entry {
	var out []api.Entry
	for _, e := range l {
		if e.Gone {
			e.Value = nil
		}
		out = append(out, e)
	}
	return out
}

func sameEntries(a, b []api.Entry) bool {
	if len(a) != len(b) {
		return false
	}
	for i := range a {
		if !bytes.Equal(a[i].Key, b[i].Key) || !bytes.Equal(a[i].Value, b[i].Value) || a[i].Gone != b[i].Gone {
			return false
		}
	}
	return true
}

// plainBatch lays down, by the document's words, entries that are within the limits.
func plainBatch(l []api.Entry) []byte {
	b := []byte{byte(len(l) / 256), byte(len(l) % 256)}
	for _, e := range l {
		if e.Gone {
			b = append(append(b, 0, byte(len(e.Key))), e.Key...)
			continue
		}
		b = append(append(b, 1, byte(len(e.Key))), e.Key...)
		b = append(append(b, byte(len(e.Value)/256), byte(len(e.Value)%256)), e.Value...)
	}
	return b
}

// roomyList copies l with roomy texts and two entries in its spare room.
func roomyList(l []api.Entry) []api.Entry {
	out := make([]api.Entry, 0, len(l)+2)
	for _, e := range l {
		out = append(out, api.Entry{Key: roomy(e.Key), Value: roomy(e.Value), Gone: e.Gone})
	}
	copy(out[len(l):len(l)+2], []api.Entry{there("spare", "room"), gone("spare")})
	return out
}

func untouchedList(t *testing.T, what string, handed, l []api.Entry) {
	t.Helper()
	for i, e := range l {
		untouched(t, what, handed[i].Key, e.Key)
		untouched(t, what, handed[i].Value, e.Value)
		if handed[i].Gone != e.Gone {
			t.Errorf("R2: %s: Gone was changed", what)
		}
	}
	if !sameEntries(handed[len(l):len(l)+2], []api.Entry{there("spare", "room"), gone("spare")}) {
		t.Errorf("R2: %s: the list's spare room was written", what)
	}
}

// goes fails unless l is laid down as it must be and comes back.
func goes(t *testing.T, what string, l []api.Entry) {
	t.Helper()
	handed := roomyList(l)
	got, why := frame.Batch(handed...)
	want := plainBatch(l)
	if !bytes.Equal(got, want) || why != api.OK {
		t.Errorf("P4.2: Batch of %s: %d bytes, %v; must be %d bytes", what, len(got), why, len(want))
	}
	spoil(got)
	untouchedList(t, "Batch of "+what, handed, l)
	b := roomy(want)
	read, why := frame.Entries(b)
	if !sameEntries(read, back(l)) || why != api.OK {
		t.Errorf("P4.2: Entries of %s: %d entries, %v", what, len(read), why)
	}
	untouched(t, "Entries of "+what, b, want)
}

// noForm fails unless Entries refuses b.
func noForm(t *testing.T, what string, b []byte) {
	t.Helper()
	handed := roomy(b)
	if got, why := frame.Entries(handed); len(got) > 0 || why != api.ErrForm {
		t.Errorf("P4.2: Entries of %s: %d entries, %v", what, len(got), why)
	}
	untouched(t, "Entries of "+what, handed, b)
}

func TestBatchOfTheDocument(t *testing.T) {
	for _, none := range [][]api.Entry{nil, {}} {
		if got, why := frame.Batch(none...); string(got) != "\x00\x00" || why != api.OK {
			t.Errorf("P4.2: Batch of none: %x, %v", got, why)
		}
	}
	got, why := frame.Batch(there("k", "v1"), api.Entry{Key: []byte("zz"), Value: []byte("not seen"), Gone: true}, there("e", ""))
	if string(got) != "\x00\x03"+"\x01\x01k\x00\x02v1"+"\x00\x02zz"+"\x01\x01e\x00\x00" || why != api.OK {
		t.Errorf("P4.2: Batch: %x, %v", got, why)
	}
	if l, why := frame.Entries([]byte{0, 0}); len(l) > 0 || why != api.OK {
		t.Errorf("P4.2: Entries of a batch of none: %v, %v", l, why)
	}
}

func TestBatchAndBack(t *testing.T) {
	goes(t, "none", nil)
	goes(t, "one", []api.Entry{there("k", "v")})
	goes(t, "one Gone", []api.Entry{gone("k")})
	goes(t, "some, one key twice, not rising", []api.Entry{there("b", "1"), there("a", "2"), gone("b"), there("b", "\x00\xff")})
	for _, key := range []int{1, 2, 254, api.MaxKey} {
		for _, value := range []int{0, 1, 255, 256, 257, api.MaxValue - 1, api.MaxValue} {
			goes(t, "each length", []api.Entry{sized(key, value, false), there("behind", "it")})
			goes(t, "each length, Gone", []api.Entry{sized(key, value, true), there("behind", "it")})
		}
	}
	for _, n := range []int{255, 256, 257, api.MaxOps - 1, api.MaxOps} {
		goes(t, "many", times(n, there("k", "v")))
		goes(t, "many Gone", times(n, gone("k")))
	}
}

func TestBatchOfTheGreatest(t *testing.T) {
	l := times(api.MaxOps, sized(api.MaxKey, api.MaxValue, false))
	got, why := frame.Batch(l...)
	if len(got) != 2+api.MaxOps*(4+api.MaxKey+api.MaxValue) || why != api.OK {
		t.Fatalf("P4.2: Batch of the greatest: %d bytes, %v", len(got), why)
	}
	if read, why := frame.Entries(got); !sameEntries(read, l) || why != api.OK {
		t.Errorf("P4.2: Entries of the greatest: %d entries, %v", len(read), why)
	}
}

func TestGoneValues(t *testing.T) {
	for _, n := range []int{api.MaxValue + 1, 65535, 65536, 1 << 20} {
		goes(t, "a Gone one whose Value is too long", []api.Entry{there("a", "b"), sized(3, n, true), there("c", "d")})
	}
	read, _ := frame.Entries([]byte("\x00\x01\x00\x01k"))
	if len(read) != 1 || len(read[0].Value) > 0 || !read[0].Gone {
		t.Errorf("P4.2: a Gone one comes back as %v", read)
	}
}

func TestBatchOfTooLong(t *testing.T) {
	well := there("k", "v")
	for _, bad := range []api.Entry{
		{}, {Gone: true}, sized(0, 1, false), sized(0, 1, true), {Key: []byte{}, Gone: true},
		sized(api.MaxKey+1, 0, false), sized(api.MaxKey+1, 0, true), sized(512, 1, false), sized(65537, 1, true), sized(257, api.MaxValue, false),
		sized(1, api.MaxValue+1, false), sized(api.MaxKey, 65536, false), sized(1, 65537, false),
	} {
		for _, l := range [][]api.Entry{{bad}, {bad, well}, {well, bad}, {well, bad, well}} {
			refusedBatch(t, l)
		}
	}
	for _, n := range []int{api.MaxOps + 1, 65535, 65536, 65537} {
		refusedBatch(t, times(n, well))
		refusedBatch(t, times(n, gone("k")))
	}
	refusedBatch(t, append(times(api.MaxOps-1, well), sized(0, 1, false)))
}

func refusedBatch(t *testing.T, l []api.Entry) {
	t.Helper()
	handed := roomyList(l)
	if got, why := frame.Batch(handed...); len(got) > 0 || why != api.ErrLong {
		t.Errorf("P4.2: Batch of too much: %d bytes, %v", len(got), why)
	}
	untouchedList(t, "Batch of too much", handed, l)
}

func TestEntriesOfBeginnings(t *testing.T) {
	for _, l := range [][]api.Entry{
		nil, {there("k", "v1")}, {gone("key")}, {there("k", "")}, {there("k", "v1"), gone("zz"), there("e", "")}, {sized(api.MaxKey, 300, false), gone("a"), there("b", "c")},
	} {
		b := plainBatch(l)
		for n := range len(b) {
			noForm(t, "a beginning of a batch", b[:n])
			if got, why := frame.Entries(b[:n]); len(got) > 0 || why != api.ErrForm {
				t.Errorf("R5: Entries of a beginning with the rest behind it: %d entries, %v", len(got), why)
			}
		}
		for _, more := range [][]byte{{0}, {1}, {0xff}, {0, 1, 'k'}, {1, 1, 'k', 0, 0}, {0, 0}, b} {
			noForm(t, "a batch and more", append(bytes.Clone(b), more...))
		}
	}
}

func TestEntriesOfWhatNoBatchGave(t *testing.T) {
	text := func(n int) string { return string(filled(n)) }
	for _, c := range []struct{ what, b string }{
		{"nothing", ""}, {"one byte", "\x00"}, {"a count alone", "\x00\x01"}, {"a first byte alone", "\x00\x01\x01"}, {"a first byte of 2", "\x00\x01\x02\x01k\x00\x00"},
		{"a first byte of 2, laid as Gone", "\x00\x01\x02\x01k"}, {"a first byte of ff", "\x00\x01\xff\x01k\x00\x00"}, {"a first byte of 80", "\x00\x01\x80\x01k"},
		{"a first byte of 2, the second entry's", "\x00\x02\x00\x01k\x02\x01k"},
		{"a Gone Key of no bytes", "\x00\x01\x00\x00"}, {"a Key of no bytes", "\x00\x01\x01\x00\x00\x00"}, {"a Key of no bytes, with a Value", "\x00\x01\x01\x00\x00\x01v"},
		{"a Gone one with a Value", "\x00\x01\x00\x01k\x00\x00"}, {"one entry too few", "\x00\x02\x00\x01k"}, {"one entry too many", "\x00\x01\x00\x01k\x00\x01k"},
		{"a Value too short", "\x00\x01\x01\x01k\x00\x02v"}, {"a Value too long", "\x00\x01\x01\x01k\x00\x01vv"}, {"a Key too short", "\x00\x01\x00\x02k"},
		{"a Value above MaxValue", "\x00\x01\x01\x01k\x10\x00" + text(api.MaxValue+1)}, {"the longest Value", "\x00\x01\x01\x01k\xff\xff" + text(65535)},
		{"text", "no batch at all"}, {"rubbish", "\xff\xff\xff\xff\xff\xff"},
	} {
		noForm(t, c.what, []byte(c.b))
	}
	for _, n := range []int{api.MaxOps + 1, 65535} {
		noForm(t, "a count above MaxOps", plainBatch(times(n, gone("k"))))
		noForm(t, "a count above MaxOps", plainBatch(times(n, there("k", "v"))))
		noForm(t, "a count above MaxOps alone", []byte{byte(n >> 8), byte(n)})
	}
}

// shortTexts are all texts of these bytes, of least to most bytes.
func shortTexts(alphabet []byte, least, most int) []string {
	var all []string
	last := []string{""}
	for length := 0; length <= most; length++ {
		if length >= least {
			all = append(all, last...)
		}
		var next []string
		for _, s := range last {
			for _, c := range alphabet {
				next = append(next, s+string([]byte{c}))
			}
		}
		last = next
	}
	return all
}

// shortBatches are all batches of entries of these bytes that are laid down as at most `most` bytes.
func shortBatches(alphabet []byte, most int) map[string][]api.Entry {
	var entries []api.Entry
	for _, key := range shortTexts(alphabet, 1, most-4) {
		entries = append(entries, gone(key))
		for _, value := range shortTexts(alphabet, 0, most-6-len(key)) {
			entries = append(entries, there(key, value))
		}
	}
	all := map[string][]api.Entry{}
	var grow func(l []api.Entry)
	grow = func(l []api.Entry) {
		b := plainBatch(l)
		if len(b) > most {
			return
		}
		all[string(b)] = l
		if len(b)+3 > most {
			return
		}
		for _, e := range entries {
			grow(append(l[:len(l):len(l)], e))
		}
	}
	grow(nil)
	return all
}

// TestEntriesOfAllShortTexts: of all texts of at most ten of three bytes, just those that a Batch gives are read.
func TestEntriesOfAllShortTexts(t *testing.T) {
	const most = 10
	alphabet := []byte{0, 1, 2}
	batches := shortBatches(alphabet, most)
	read := 0
	for _, s := range shortTexts(alphabet, 0, most) {
		want, ok := batches[s]
		got, why := frame.Entries([]byte(s))
		if ok && (why != api.OK || !sameEntries(got, want)) || !ok && (why != api.ErrForm || len(got) > 0) {
			t.Fatalf("P4.2: Entries(%x): %v, %v; from a Batch: %v", s, got, why, ok)
		}
		if ok {
			read++
		}
	}
	if read < 100 {
		t.Errorf("only %d batches were read", read)
	}
}

// someEntries throws a list that is within the limits.
func someEntries(r *rand.Rand) []api.Entry {
	l := make([]api.Entry, r.Intn(6))
	for i := range l {
		l[i] = sized(1+r.Intn(12), r.Intn(20), r.Intn(3) == 0)
		if r.Intn(20) == 0 {
			l[i] = sized(api.MaxKey, api.MaxValue, false)
		}
	}
	return l
}

func TestThrownBatches(t *testing.T) {
	r := rand.New(rand.NewSource(42))
	for range 1000 {
		goes(t, "a thrown list", someEntries(r))
	}
}

// TestEntriesOfTurnedBytes: what is read of a batch with a byte turned is what a Batch of it gives again, byte for byte, and what is refused is empty.
func TestEntriesOfTurnedBytes(t *testing.T) {
	l := []api.Entry{there("k", "v1"), gone("zz"), there("e", ""), there("longer key", "longer value")}
	whole := plainBatch(l)
	for i := range whole {
		for turned := range 256 {
			b := bytes.Clone(whole)
			b[i] = byte(turned)
			got, why := frame.Entries(b)
			switch why {
			case api.OK:
				if !bytes.Equal(plainBatch(got), b) {
					t.Errorf("P4.2: Entries, byte %d as %d: %v, which lies otherwise", i, turned, got)
				}
				for _, e := range got {
					if len(e.Key) == 0 || len(e.Key) > api.MaxKey || len(e.Value) > api.MaxValue {
						t.Errorf("P4.2: Entries, byte %d as %d: %v, which no Batch takes", i, turned, got)
					}
				}
			case api.ErrForm:
				if len(got) > 0 {
					t.Errorf("P4.2: Entries, byte %d as %d: refused with %v", i, turned, got)
				}
			default:
				t.Errorf("P4.2: Entries, byte %d as %d: %v", i, turned, why)
			}
		}
	}
	for _, c := range []struct{ at, as int }{{0, 1}, {1, 3}, {1, 5}, {2, 0}, {2, 2}, {3, 0}, {3, 2}, {5, 16}, {6, 1}, {6, 3}, {9, 1}, {9, 255}, {10, 0}} {
		b := bytes.Clone(whole)
		b[c.at] = byte(c.as)
		noForm(t, "a batch with a byte turned", b)
	}
}

func TestEntriesAreNewMemory(t *testing.T) {
	l := []api.Entry{there("k", "v1"), gone("zz"), there("e", ""), there("k", "v1")}
	text := plainBatch(l)
	for spoilt := range 2 * len(l) {
		b := roomy(text)
		got, why := frame.Entries(b)
		if len(got) != len(l) || why != api.OK {
			t.Fatalf("P4.2: Entries: %d, %v", len(got), why)
		}
		lists := func() [][]byte {
			var all [][]byte
			for _, e := range got {
				all = append(all, e.Key, e.Value)
			}
			return all
		}
		spoil(lists()[spoilt])
		untouched(t, "a write into Entries' answer", b, text)
		for i, list := range lists() {
			want := l[i/2].Key
			if i%2 == 1 {
				want = l[i/2].Value
			}
			if i != spoilt && !bytes.Equal(list, want) {
				t.Errorf("R2: lists %d and %d of one answer share memory", spoilt, i)
			}
		}
	}
	b := roomy(text)
	got, _ := frame.Entries(b)
	spoil(b)
	if !sameEntries(got, l) {
		t.Error("R2: Entries kept what was handed in")
	}
}

func TestBatchIsNewMemory(t *testing.T) {
	l := []api.Entry{there("k", "v1"), gone("zz")}
	first, _ := frame.Batch(l...)
	second, _ := frame.Batch(l...)
	spoil(first)
	if !bytes.Equal(second, plainBatch(l)) {
		t.Error("R2: two answers of Batch share memory")
	}
	spoil(l[0].Key)
	spoil(l[0].Value)
	if !bytes.Equal(second, plainBatch([]api.Entry{there("k", "v1"), gone("zz")})) {
		t.Error("R2: Batch kept what was handed in")
	}
}

// TestBatchesAsRecords: a batch is kept as a record and comes back from the row.
func TestBatchesAsRecords(t *testing.T) {
	lists := [][]api.Entry{nil, {there("k", "v")}, {gone("k"), there("l", "")}}
	var b []byte
	for _, l := range lists {
		batch, _ := frame.Batch(l...)
		b, _ = frame.Put(b, batch)
	}
	records, at, why := frame.All(b)
	if len(records) != len(lists) || at != len(b) || why != api.OK {
		t.Fatalf("P4.1: All of batches: %d records, %d, %v", len(records), at, why)
	}
	for i, rec := range records {
		if got, why := frame.Entries(rec); !sameEntries(got, lists[i]) || why != api.OK {
			t.Errorf("P4.2: batch %d: %v, %v", i, got, why)
		}
	}
}
