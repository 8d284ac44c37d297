package frame_test

import (
	"bytes"
	"math/rand"
	"testing"

	"marigraph/api"
	"marigraph/frame"
)

const maxRecord = 1 << 20

// mark fills the spare room of what is handed in, so that a write into it shows.
const mark = 0x5a

// roomy lays text down with spare room behind it.
func roomy(text []byte) []byte {
	whole := bytes.Repeat([]byte{mark}, len(text)+24)
	copy(whole, text)
	return whole[:len(text)]
}

// untouched fails unless b is still text, with marks in its spare room.
func untouched(t *testing.T, what string, b, text []byte) {
	t.Helper()
	if !bytes.Equal(b, text) {
		t.Errorf("R2: %s: what was handed in has changed", what)
	}
	for _, c := range b[len(b):cap(b)] {
		if c != mark {
			t.Fatalf("R2: %s: the spare room was written", what)
		}
	}
}

// spoil turns all bytes of b and of its spare room.
func spoil(b []byte) {
	b = b[:cap(b)]
	for i := range b {
		b[i] ^= 0xff
	}
}

// filled is a text of n bytes that are not all alike.
func filled(n int) []byte {
	b := make([]byte, n)
	for i := range b {
		b[i] = byte(i*7 + i>>8)
	}
	return b
}

// laid is a record of a length below 2^24, as the document says that it lies, written out by hand.
func laid(rec []byte) []byte {
	n := len(rec)
	h := []byte{byte(n >> 16), byte(n >> 8), byte(n)}
	return append(append(h, ^h[0], ^h[1], ^h[2]), rec...)
}

// headOf is laid's of so many bytes without them.
func headOf(n int) []byte { return laid(make([]byte, n))[:6] }

func row(records ...[]byte) []byte {
	var b []byte
	for _, r := range records {
		b = append(b, laid(r)...)
	}
	return b
}

func same(a, b [][]byte) bool {
	if len(a) != len(b) {
		return false
	}
	for i := range a {
		if !bytes.Equal(a[i], b[i]) {
			return false
		}
	}
	return true
}

// tells fails unless All of b is what must be, and leaves b alone.
func tells(t *testing.T, what string, b []byte, want [][]byte, end int, why api.Errno) {
	t.Helper()
	handed := roomy(b)
	got, at, e := frame.All(handed)
	if !same(got, want) || at != end || e != why {
		t.Errorf("%s: %d records up to %d, %v; must be %d up to %d, %v", what, len(got), at, e, len(want), end, why)
	}
	untouched(t, what, handed, b)
}

func TestPutOfTheDocument(t *testing.T) {
	got, why := frame.Put(nil, []byte("a"))
	if string(got) != "\x00\x00\x01\xff\xff\xfea" || why != api.OK {
		t.Errorf("P4.1: Put(nil, a): %x, %v", got, why)
	}
}

func TestPut(t *testing.T) {
	ahead := [][]byte{nil, {}, {0}, {1, 2, 3, 4, 5}, []byte("no record at all"), row(nil), row([]byte("one"), nil, []byte("three"))}
	for _, n := range []int{0, 1, 2, 254, 255, 256, 257, 65535, 65536, 65537, maxRecord - 1, maxRecord} {
		rec := filled(n)
		for _, text := range ahead {
			b, r := roomy(text), roomy(rec)
			got, why := frame.Put(b, r)
			if !bytes.Equal(got, append(bytes.Clone(text), laid(rec)...)) || why != api.OK {
				t.Errorf("P4.1: Put(%x, %d bytes): %d bytes, %v", text, n, len(got), why)
			}
			spoil(got)
			untouched(t, "Put, what stands ahead", b, text)
			untouched(t, "Put, the record", r, rec)
		}
	}
}

func TestPutOfTooLong(t *testing.T) {
	for _, n := range []int{maxRecord + 1, maxRecord + 2, 1<<24 - 1, 1 << 24, 1<<24 + 1} {
		rec := filled(n)
		for _, text := range [][]byte{nil, row([]byte("one"))} {
			b, r := roomy(text), roomy(rec)
			if got, why := frame.Put(b, r); len(got) > 0 || why != api.ErrLong {
				t.Errorf("P4.1: Put of %d bytes: %d bytes, %v", n, len(got), why)
			}
			untouched(t, "Put of too long, what stands ahead", b, text)
			untouched(t, "Put of too long, the record", r, rec)
		}
	}
}

func TestPutIsNewMemory(t *testing.T) {
	b := roomy(row([]byte("one")))
	first, _ := frame.Put(b, []byte("x"))
	second, _ := frame.Put(b, []byte("y"))
	if !bytes.Equal(first, row([]byte("one"), []byte("x"))) || !bytes.Equal(second, row([]byte("one"), []byte("y"))) {
		t.Errorf("R2: two answers of Put share memory: %x, %x", first, second)
	}
	twice := roomy([]byte("ab"))
	if got, why := frame.Put(twice, twice); string(got) != "ab\x00\x00\x02\xff\xff\xfdab" || why != api.OK {
		t.Errorf("P4.1: Put of one text as both: %x, %v", got, why)
	}
	part := roomy([]byte("abcdef"))
	if got, why := frame.Put(part[:2], part[1:4]); string(got) != "ab\x00\x00\x03\xff\xff\xfcbcd" || why != api.OK {
		t.Errorf("P4.1: Put of parts of one text: %x, %v", got, why)
	}
	untouched(t, "Put of parts of one text", part, []byte("abcdef"))
}

func TestAllOfNothing(t *testing.T) {
	for _, none := range [][]byte{nil, {}} {
		if got, at, why := frame.All(none); len(got) != 0 || at != 0 || why != api.OK {
			t.Errorf("P4.1: All of nothing: %v, %d, %v", got, at, why)
		}
	}
	tells(t, "P4.1: All of nothing, with room", nil, nil, 0, api.OK)
}

func TestAll(t *testing.T) {
	one := [][]byte{[]byte("one")}
	tells(t, "P4.1: All of one record", row(one...), one, 9, api.OK)
	empty := [][]byte{{}, {}, {}}
	tells(t, "P4.1: All of empty records", row(empty...), empty, 18, api.OK)
	for _, n := range []int{0, 1, 255, 256, 65535, 65536, maxRecord - 1, maxRecord} {
		long := [][]byte{[]byte("ahead"), filled(n), []byte("behind")}
		b := row(long...)
		tells(t, "P4.1: All of a record of each length", b, long, len(b), api.OK)
	}
	many := make([][]byte, 5000)
	for i := range many {
		many[i] = filled(i % 37)
	}
	b := row(many...)
	tells(t, "P4.1: All of many records", b, many, len(b), api.OK)
}

func TestAllOfWhatPutGave(t *testing.T) {
	r := rand.New(rand.NewSource(4))
	for range 200 {
		var b []byte
		var want [][]byte
		for range r.Intn(10) {
			rec := make([]byte, r.Intn(300))
			r.Read(rec)
			want = append(want, rec)
			b, _ = frame.Put(b, rec)
		}
		tells(t, "P4.1: All of what Put gave", b, want, len(b), api.OK)
	}
}

// TestAllDoesNotReadSpareRoom: the rest of a record that stands behind the length is not there.
func TestAllDoesNotReadSpareRoom(t *testing.T) {
	b := row([]byte("one"), []byte("two"))
	for n, want := range map[int]int{9: 1, 8: 0, 17: 1, 12: 1} {
		if got, at, why := frame.All(b[:n]); len(got) != want || at != 9*want || why != api.OK {
			t.Errorf("R5: All of %d bytes with the rest behind them: %d records, %d, %v", n, len(got), at, why)
		}
	}
}

// TestBeginnings cuts rows off at each place: only whole records are told, and nothing is wrong.
func TestBeginnings(t *testing.T) {
	r := rand.New(rand.NewSource(43))
	for range 200 {
		var b []byte
		var records [][]byte
		ends := []int{0}
		for range r.Intn(7) {
			rec := make([]byte, r.Intn(30))
			r.Read(rec)
			records = append(records, rec)
			b = append(b, laid(rec)...)
			ends = append(ends, len(b))
		}
		whole := 0
		for n := range len(b) + 1 {
			if whole+1 < len(ends) && ends[whole+1] == n {
				whole++
			}
			tells(t, "P4.3: a beginning of a row", b[:n], records[:whole], ends[whole], api.OK)
		}
	}
}

func TestBeginningsOfLongRecords(t *testing.T) {
	ahead := [][]byte{[]byte("ahead")}
	end := len(row(ahead...))
	for _, size := range []int{256, 65536, maxRecord} {
		b := append(row(ahead...), laid(filled(size))...)
		for _, n := range []int{end, end + 5, end + 6, end + 7, end + 300, len(b) / 2, len(b) - 1} {
			if n < len(b) {
				tells(t, "P4.3: a beginning of a long record", b[:n], ahead, end, api.OK)
			}
		}
	}
}

// behind is each row of records that the tests of a rest lay it behind.
func behind() [][][]byte {
	return [][][]byte{nil, {{}}, {[]byte("one")}, {[]byte("one"), {}, []byte("a third")}}
}

func TestAllOfTornRests(t *testing.T) {
	for _, records := range behind() {
		b := row(records...)
		for _, rest := range [][]byte{
			{0}, {0xff}, {1, 2, 3, 4, 5}, {0, 0, 0, 0, 0}, {0xff, 0xff, 0xff, 0xff, 0xff}, {0, 0, 1, 0xff, 0xff}, []byte("rubbi"),
			headOf(1), headOf(255), headOf(256), headOf(65536), headOf(maxRecord), append(headOf(2), 0), append(headOf(maxRecord), filled(500)...),
		} {
			tells(t, "P4.1: a torn rest", append(bytes.Clone(b), rest...), records, len(b), api.OK)
		}
	}
}

func TestAllOfCorruptRests(t *testing.T) {
	for _, records := range behind() {
		b := row(records...)
		for _, rest := range [][]byte{
			{0, 0, 1, 0xff, 0xff, 0xff}, {0, 0, 0, 0, 0, 0}, {0xff, 0xff, 0xff, 0xff, 0xff, 0xff}, []byte("rubbish"), []byte("rubbis"), {0, 0, 1, 0, 0, 1},
			headOf(maxRecord + 1), append(headOf(maxRecord+1), 1, 2, 3), laid(filled(maxRecord + 1)), headOf(1 << 21), headOf(1<<24 - 1), {0, 0, 1, 0xfe, 0xff, 0xff},
		} {
			tells(t, "P4.1: a corrupt rest", append(bytes.Clone(b), rest...), records, len(b), api.ErrCorrupt)
		}
	}
}

// TestAllOfTurnedHeads: one bit turned in a head never passes, whatever stands behind it.
func TestAllOfTurnedHeads(t *testing.T) {
	for _, records := range behind() {
		b := row(records...)
		for _, n := range []int{0, 1, 3, 300} {
			for bit := range 48 {
				rest := append(laid(filled(n)), row([]byte("behind"), filled(400))...)
				rest[bit/8] ^= 1 << (bit % 8)
				tells(t, "P4.1: a bit turned in a head", append(bytes.Clone(b), rest...), records, len(b), api.ErrCorrupt)
			}
		}
	}
}

// plainAll is All by the document's words, with heads written out by hand for each length that may be.
func plainAll(b []byte) ([][]byte, int, api.Errno) {
	var records [][]byte
	for at := 0; ; {
		rest := b[at:]
		if len(rest) < 6 {
			return records, at, api.OK
		}
		n := int(rest[0])*65536 + int(rest[1])*256 + int(rest[2])
		if n > maxRecord || !bytes.Equal(headOf(n), rest[:6]) {
			return records, at, api.ErrCorrupt
		}
		if len(rest) < 6+n {
			return records, at, api.OK
		}
		records = append(records, rest[6:6+n])
		at += 6 + n
	}
}

// TestAllOfAllShortTexts goes through all texts of at most eight of these bytes.
func TestAllOfAllShortTexts(t *testing.T) {
	alphabet := []byte{0, 1, 0xfe, 0xff}
	for length := 0; length <= 8; length++ {
		count := 1 << (2 * length)
		text := make([]byte, length)
		for n := range count {
			for i := range text {
				text[i] = alphabet[n>>(2*i)&3]
			}
			want, end, why := plainAll(text)
			if got, at, e := frame.All(text); !same(got, want) || at != end || e != why {
				t.Fatalf("P4.1: All(%x): %x, %d, %v; must be %x, %d, %v", text, got, at, e, want, end, why)
			}
		}
	}
}

func TestAllOfThrownTexts(t *testing.T) {
	r := rand.New(rand.NewSource(41))
	for range 3000 {
		var b []byte
		for range r.Intn(5) {
			b = append(b, laid(filled(r.Intn(20)))...)
		}
		for range r.Intn(3) {
			if len(b) > 0 {
				b[r.Intn(len(b))] = byte(r.Intn(256))
			}
		}
		b = b[:r.Intn(len(b)+1)]
		want, end, why := plainAll(b)
		tells(t, "P4.1: a thrown text", b, want, end, why)
	}
}

func TestAllIsNewMemory(t *testing.T) {
	records := [][]byte{[]byte("one"), {}, []byte("three"), []byte("4")}
	for _, rest := range [][]byte{nil, []byte("rubbish")} {
		text := append(row(records...), rest...)
		for spoilt := range records {
			b := roomy(text)
			got, _, _ := frame.All(b)
			if len(got) != len(records) {
				t.Fatalf("P4.1: All: %d records", len(got))
			}
			spoil(got[spoilt])
			untouched(t, "a write into All's answer", b, text)
			for i := range got {
				if i != spoilt && !bytes.Equal(got[i], records[i]) {
					t.Errorf("R2: records %d and %d of one answer share memory", spoilt, i)
				}
			}
		}
		b := roomy(text)
		got, _, _ := frame.All(b)
		spoil(b)
		if !same(got, records) {
			t.Error("R2: All kept what was handed in")
		}
	}
}
