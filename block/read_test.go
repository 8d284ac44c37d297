package block_test

import (
	"bytes"
	"fmt"
	"math/rand"
	"slices"
	"testing"

	"marigraph/api"
	"marigraph/block"
)

// built is a block of l.
func built(t *testing.T, l ...api.Entry) []byte {
	t.Helper()
	b, why := block.Build(l...)
	if why != api.OK {
		t.Fatalf("P6.1: Build of %d entries: %v", len(l), why)
	}
	return b
}

// samples are lists of entries that go through each part of a block.
func samples() [][]api.Entry {
	return [][]api.Entry{
		{there("k", "v")},
		{gone("k")},
		{there("ab", "1"), there("ac", "")},
		{gone("a"), gone("ab"), there("abc", "xyz"), gone("abd")},
		{there("ab", "1"), there("ac", ""), gone("acd"), there("b", "xy"), there("ba", "z")},
		{gone("a"), there("aa", "\x00\x01"), gone("aaa"), there("aaab", ""), gone("aaac"), there("aad", "\x00\x00\x01"), gone("b"), gone("ba"), there("bb", "q"), gone("bc")},
	}
}

func TestAllOfNothing(t *testing.T) {
	for _, none := range [][]byte{nil, {}} {
		if l, why := block.All(none); len(l) > 0 || why != api.ErrForm {
			t.Errorf("P6.2: All of nothing: %v, %v", l, why)
		}
		if at, ok := block.Restarts(none); len(at) > 0 || ok {
			t.Errorf("P6.2: Restarts of nothing: %v, %v", at, ok)
		}
		if e, ok := block.Seek(none, none); len(e.Key) > 0 || len(e.Value) > 0 || e.Gone || ok {
			t.Errorf("P6.2: Seek in nothing: %v, %v", e, ok)
		}
	}
	refuses(t, "nothing, with room", nil)
}

func TestAllOfBuild(t *testing.T) {
	lists := samples()
	for _, n := range []int{1, 2, 3, 4, 5, 8, 9, 254, 255} {
		lists = append(lists, many(n, 0), many(n, 5))
	}
	lists = append(lists, many(16, 4095), many(20, 3000))
	for i, l := range lists {
		tells(t, fmt.Sprintf("P6.3: list %d", i), built(t, l...), l, starts(l))
	}
	with := gone("k")
	with.Value = filled(5000)
	tells(t, "P6.3: a Gone one with a Value", built(t, there("j", "v"), with), []api.Entry{there("j", "v"), gone("k")}, []int{0})
}

func TestRestarts(t *testing.T) {
	for n := 1; n <= 255; n++ {
		var want []int
		for i := 0; i < n; i += 4 {
			want = append(want, i/4*(6+3*4))
		}
		l := make([]api.Entry, n)
		for i := range l { // the first of four takes 6 bytes, each other one 4
			l[i] = gone(string([]byte{byte(i/4 + 1), byte(i%4 + 1)}))
			if i%4 == 0 {
				l[i] = there(string([]byte{byte(i/4 + 1)}), "")
			}
		}
		if at, ok := block.Restarts(built(t, l...)); !slices.Equal(at, want) || !ok {
			t.Fatalf("P6.2: Restarts of %d entries: %v, %v; must be %v", n, at, ok, want)
		}
	}
}

func TestCutOff(t *testing.T) {
	for _, l := range append(samples(), many(40, 3)) {
		b := built(t, l...)
		for n := range b {
			asPlain(t, "a block cut off", b[:n:n])
			if got, why := block.All(b[:n]); why == api.OK && !bytes.Equal(built(t, got...), b[:n]) {
				t.Errorf("R5: All read what stands behind %d bytes", n)
			}
			asPlain(t, "a block cut off ahead", b[n+1:])
		}
	}
	for i, l := range samples()[:5] {
		b := built(t, l...)
		for n := range b {
			refuses(t, fmt.Sprintf("a block cut off, list %d", i), b[:n])
		}
	}
}

func TestMoreBehind(t *testing.T) {
	for i, l := range append(samples(), many(40, 3)) {
		b := built(t, l...)
		for c := range 256 {
			refuses(t, fmt.Sprintf("a byte %d behind list %d", c, i), append(bytes.Clone(b), byte(c)))
		}
		refuses(t, "a block twice", slices.Concat(b, b))
	}
}

// TestEachByteTurned turns each byte of a block to each other one: that is refused, unless it is a block of other entries.
func TestEachByteTurned(t *testing.T) {
	for _, l := range samples() {
		b := built(t, l...)
		for i := range b {
			for c := range 256 {
				turned := bytes.Clone(b)
				turned[i] = byte(c)
				asPlain(t, fmt.Sprintf("a block with byte %d turned to %d", i, c), turned)
			}
		}
	}
}

// block1 is entries that begin at 0 alone, with what tells so.
func block1(entries string) []byte { return []byte(entries + "\x00\x00\x01") }

func TestWhatNoBuildGave(t *testing.T) {
	first := "\x00\x02ab\x00"
	tells(t, "the test's own block", block1(first+"\x01\x01c\x00"), []api.Entry{gone("ab"), gone("ac")}, []int{0})
	four := "\x00\x01a\x00\x01\x01b\x00\x01\x01c\x00\x01\x01d\x00"
	fifth := "\x00\x02ae\x00"
	tells(t, "the test's own block of five", []byte(four+fifth+"\x00\x00\x00\x10\x02"), []api.Entry{gone("a"), gone("ab"), gone("ac"), gone("ad"), gone("ae")}, []int{0, 16})
	for what, b := range map[string][]byte{
		"more shared than the Key ahead has":      block1(first + "\x03\x01c\x00"),
		"all shared and more":                     block1(first + "\xff\x01c\x00"),
		"a first one that shares":                 block1("\x01\x01a\x00"),
		"a first one that shares, of no more":     block1("\x01\x00\x00"),
		"a fourth one that shares":                []byte(four + "\x01\x01e\x00" + "\x00\x00\x00\x10\x02"),
		"less shared than could be":               block1(first + "\x00\x02ac\x00"),
		"less shared than could be, of two":       block1("\x00\x03abc\x00" + "\x01\x02bd\x00"),
		"the same Key, shared":                    block1(first + "\x02\x00\x00"),
		"the same Key, not shared":                block1(first + "\x00\x02ab\x00"),
		"a beginning of the Key ahead":            block1(first + "\x01\x00\x00"),
		"a lower Key":                             block1(first + "\x01\x01a\x00"),
		"a lower Key at a fourth one":             []byte(four + "\x00\x02ac\x00" + "\x00\x00\x00\x10\x02"),
		"the same Key at a fourth one":            []byte(four + "\x00\x02ad\x00" + "\x00\x00\x00\x10\x02"),
		"a Key of no bytes":                       block1("\x00\x00\x00"),
		"a Key of no bytes, with a Value":         block1("\x00\x00\x01\x00\x01v"),
		"a Key of no bytes behind one":            block1(first + "\x00\x00\x00"),
		"2 for Gone":                              block1("\x00\x01a\x02"),
		"2 for Gone, with a Value":                block1("\x00\x01a\x02\x00\x01v"),
		"255 for Gone":                            block1("\x00\x01a\xff\x00\x00"),
		"a Gone one with a Value":                 block1("\x00\x01a\x00\x00\x01v"),
		"a Gone one with a length":                block1("\x00\x01a\x00\x00\x00"),
		"one that is not Gone without a Value":    block1("\x00\x01a\x01"),
		"one with half a length":                  block1("\x00\x01a\x01\x00"),
		"a Value with a byte too few":             block1("\x00\x01a\x01\x00\x02v"),
		"a Value with a byte too many":            block1("\x00\x01a\x01\x00\x01vw"),
		"no entries":                              block1(""),
		"no entries, no beginnings":               {0},
		"no beginnings":                           []byte(first + "\x00"),
		"no beginnings and nothing of them":       []byte(first),
		"two beginnings of one":                   []byte(first + "\x00\x00\x00\x00\x02"),
		"two beginnings of one, the second later": []byte(first + "\x00\x00\x00\x05\x02"),
		"a beginning at 1":                        []byte(first + "\x00\x01\x01"),
		"a beginning at 256":                      []byte(first + "\x01\x00\x01"),
		"one beginning of two":                    []byte(four + fifth + "\x00\x00\x01"),
		"the second beginning of two alone":       []byte(four + fifth + "\x00\x10\x01"),
		"the second beginning too early":          []byte(four + fifth + "\x00\x00\x00\x0f\x02"),
		"the second beginning too late":           []byte(four + fifth + "\x00\x00\x00\x11\x02"),
		"the second beginning at the third entry": []byte(four + fifth + "\x00\x00\x00\x0c\x02"),
		"the two beginnings turned round":         []byte(four + fifth + "\x00\x10\x00\x00\x02"),
		"three beginnings of two":                 []byte(four + fifth + "\x00\x00\x00\x10\x00\x15\x03"),
		"two beginnings of four entries":          []byte(four + "\x00\x00\x00\x10\x02"),
		"more beginnings than bytes":              []byte(first + "\x00\x00\xff"),
		"ahead of it a byte":                      append([]byte{0}, block1(first)...),
	} {
		refuses(t, what, b)
	}
}

// TestLongerThanBuildGives: what is too long for Build, laid down as if it were not.
func TestLongerThanBuildGives(t *testing.T) {
	for value, ok := range map[int]bool{4095: true, 4096: false, 65535: false} {
		l := []api.Entry{{Key: []byte("k"), Value: filled(value)}}
		b, at := plainBuild(l)
		if ok {
			tells(t, "a Value of the greatest length", b, l, at)
		} else {
			refuses(t, fmt.Sprintf("a Value of %d bytes", value), b)
		}
	}
	ahead := bytes.Repeat([]byte{'k'}, 200)
	for more, ok := range map[int]bool{55: true, 56: false, 255: false} {
		l := []api.Entry{{Key: ahead, Gone: true}, {Key: slices.Concat(ahead, filled(more)), Gone: true}}
		b, at := plainBuild(l)
		if ok {
			tells(t, "a Key of the greatest length", b, l, at)
		} else {
			refuses(t, fmt.Sprintf("a Key of 200 and %d bytes", more), b)
		}
	}
	for n, ok := range map[int]bool{255: true, 256: false, 257: false, 999: false} {
		l := many(n, 0)
		b, at := plainBuild(l)
		if ok {
			tells(t, "255 entries", b, l, at)
		} else {
			refuses(t, fmt.Sprintf("%d entries", n), b)
		}
	}
	for place, ok := range map[int]bool{65535: true, 65536: false, 65537: false} {
		l := beginsAt(place)
		b, at := plainBuild(l)
		if ok {
			tells(t, "a beginning at 65535", b, l, at)
		} else {
			refuses(t, fmt.Sprintf("a beginning at %d", place), b)
		}
	}
	long := slices.Concat([]byte{0, 255}, filled(255), []byte{0}, bytes.Repeat([]byte{255, 0, 0}, 3))
	refuses(t, "a hundred thousand entries of the longest Key", append(bytes.Repeat(long, 25000), 0, 0, 1))
	refuses(t, "a million bytes 0", make([]byte, 1<<20))
	refuses(t, "a million bytes 1", bytes.Repeat([]byte{1}, 1<<20))
	refuses(t, "a million bytes 255", bytes.Repeat([]byte{0xff}, 1<<20))
}

// TestAllShortTexts goes through all texts of at most eleven of these bytes; the shortest block of two entries is of that length.
func TestAllShortTexts(t *testing.T) {
	blocks := 0
	for length, count := 0, 1; length <= 11; length, count = length+1, count*3 {
		text := make([]byte, length)
		for n := range count {
			for i, rest := 0, n; i < length; i, rest = i+1, rest/3 {
				text[i] = byte(rest % 3)
			}
			want, at, ok := plainAll(text)
			l, why := block.All(text)
			if (why == api.OK) != ok || !ok && why != api.ErrForm || !slices.EqualFunc(l, want, same) {
				t.Fatalf("P6.2: All(%x): %v, %v; must be %v", text, l, why, want)
			}
			if got, there := block.Restarts(text); there != ok || !slices.Equal(got, at) {
				t.Fatalf("P6.2: Restarts(%x): %v, %v; must be %v", text, got, there, at)
			}
			if ok {
				blocks++
			}
		}
	}
	if blocks < 50 {
		t.Errorf("the test went through %d blocks", blocks)
	}
}

func TestThrownTexts(t *testing.T) {
	r := rand.New(rand.NewSource(62))
	for range 5000 {
		b := built(t, thrown(r, 14)...)
		for range r.Intn(3) {
			b[r.Intn(len(b))] = byte(r.Intn(8))
		}
		switch at := r.Intn(len(b)); r.Intn(4) {
		case 0:
			b = slices.Delete(b, at, at+1)
		case 1:
			b = slices.Insert(b, at, byte(r.Intn(4)))
		}
		asPlain(t, "a thrown text", b)
	}
	for range 5000 {
		b := make([]byte, r.Intn(40))
		r.Read(b)
		asPlain(t, "thrown bytes", b)
	}
}

func TestSeek(t *testing.T) {
	l := []api.Entry{there("ab", "1"), there("ac", ""), gone("acd"), there("b", "xy"), there("ba", "z"), gone("c\x00"), there("\xff", "end")}
	b := built(t, l...)
	for key, want := range map[string]int{
		"": 0, "\x00": 0, "a": 0, "ab": 0, "ab\x00": 1, "abc": 1, "ac": 1, "ac\x00": 2, "acd": 2, "acd\x00": 3, "ace": 3, "b": 3, "b\x00": 4, "ba": 4, "bb": 5, "c": 5, "c\x00": 5, "c\x00\x00": 6, "d": 6, "\xfe\xff": 6, "\xff": 6,
	} {
		handed := roomy([]byte(key))
		if e, ok := block.Seek(b, handed); !same(e, l[want]) || !ok {
			t.Errorf("P6.2: Seek(%q): %v, %v; must be entry %d", key, e, ok, want)
		}
		untouched(t, "Seek's key", handed, []byte(key))
	}
	for _, key := range [][]byte{{0xff, 0}, {0xff, 0xff}, bytes.Repeat([]byte{0xff}, 300)} {
		if e, ok := block.Seek(b, key); len(e.Key) > 0 || len(e.Value) > 0 || e.Gone || ok {
			t.Errorf("P6.2: Seek(%x), behind all: %v, %v", key, e, ok)
		}
	}
	if e, ok := block.Seek(b, nil); !same(e, l[0]) || !ok {
		t.Errorf("P6.2: Seek(nil): %v, %v", e, ok)
	}
	if e, ok := block.Seek(b, bytes.Repeat([]byte{'a'}, 300)); !same(e, l[0]) || !ok {
		t.Errorf("P6.2: Seek of a key longer than any: %v, %v", e, ok)
	}
}

// TestSeekOfThrownKeys holds Seek against a walk through the list.
func TestSeekOfThrownKeys(t *testing.T) {
	r := rand.New(rand.NewSource(63))
	for range 500 {
		l := back(thrown(r, 60))
		b := built(t, l...)
		for range 20 {
			key := thrown(r, 1)[0].Key[:r.Intn(2)]
			if r.Intn(3) > 0 {
				key = thrown(r, 1)[0].Key
			}
			want := slices.IndexFunc(l, func(e api.Entry) bool { return bytes.Compare(e.Key, key) >= 0 })
			e, ok := block.Seek(b, key)
			if ok != (want >= 0) || ok && !same(e, l[want]) || !ok && !same(e, api.Entry{}) {
				t.Fatalf("P6.2: Seek(%q): %v, %v; must be entry %d", key, e, ok, want)
			}
		}
	}
}
