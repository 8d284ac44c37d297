package octet_test

import (
	"bytes"
	"encoding/binary"
	"math"
	"testing"

	"marigraph/octet"
)

// mark fills the spare room of what is handed in, so that a write into it shows.
const mark = 0x5a

// roomy lays text down with spare room behind it.
func roomy(text []byte) []byte {
	whole := bytes.Repeat([]byte{mark}, len(text)+12)
	copy(whole, text)
	return whole[:len(text)]
}

// untouched fails unless b is still text, with marks in its spare room.
func untouched(t *testing.T, what string, b, text []byte) {
	t.Helper()
	if !bytes.Equal(b, text) {
		t.Errorf("R2: %s: what was handed in is now %v, was %v", what, b, text)
	}
	for _, c := range b[len(b):cap(b)] {
		if c != mark {
			t.Fatalf("R2: %s: the spare room was written", what)
		}
	}
}

// texts are all texts of at most three of these bytes, and some longer ones.
func texts() [][]byte {
	all := [][]byte{nil}
	for from, length := 0, 1; length <= 3; length++ {
		to := len(all)
		for _, t := range all[from:to] {
			for _, c := range []byte{0, 1, 0x7f, 0x80, 0xfe, 0xff} {
				all = append(all, append(bytes.Clone(t), c))
			}
		}
		from = to
	}
	long := bytes.Repeat([]byte("abc"), 100)
	return append(all, long, long[:299], append(bytes.Clone(long), 0xff), bytes.Repeat([]byte{0xff}, 300))
}

// numbers are those around each power of 256, and some with all bytes unlike.
func numbers() []uint64 {
	all := []uint64{0, 1, 2, 127, 128, 0x0102030405060708, 0xfedcba9876543210, math.MaxInt64, 1 << 63, math.MaxUint64}
	for shift := 8; shift < 64; shift += 8 {
		p := uint64(1) << shift
		all = append(all, p-1, p, p+1)
	}
	return all
}

// lowest is what Put must lay down of n, worked out by the library.
func lowest(n uint64, size int) []byte {
	whole := binary.BigEndian.AppendUint64(nil, n)
	switch {
	case size <= 0:
		return nil
	case size >= 8:
		return whole
	}
	return whole[8-size:]
}

func sizes() []int {
	return []int{math.MinInt, -9, -8, -1, 0, 1, 2, 3, 4, 5, 6, 7, 8, 9, 16, 64, math.MaxInt}
}

func TestPut(t *testing.T) {
	for _, text := range [][]byte{nil, {}, {0}, {9}, {0xff, 0xff}, []byte("a longer text")} {
		for _, n := range numbers() {
			for _, size := range sizes() {
				b := roomy(text)
				got := octet.Put(b, n, size)
				want := append(bytes.Clone(text), lowest(n, size)...)
				if !bytes.Equal(got, want) {
					t.Errorf("P2.1: Put(%v, %d, %d): %v, must be %v", text, n, size, got, want)
				}
				untouched(t, "Put", b, text)
			}
		}
	}
}

func TestPutOfTheDocument(t *testing.T) {
	if got := octet.Put(nil, 258, 3); !bytes.Equal(got, []byte{0, 1, 2}) {
		t.Errorf("P2.1: Put(nil, 258, 3): %v", got)
	}
	if got := octet.Put([]byte{9}, 0x010203, 2); !bytes.Equal(got, []byte{9, 2, 3}) {
		t.Errorf("P2.1: Put of a number with more bytes than size: %v", got)
	}
}

func TestPutIsNewMemory(t *testing.T) {
	for _, size := range sizes() {
		b := roomy([]byte{1, 2, 3})
		got := octet.Put(b, 7, size)
		whole := got[:cap(got)]
		for i := range whole {
			whole[i] ^= 0xff
		}
		untouched(t, "a write into Put's answer", b, []byte{1, 2, 3})
	}
	b := roomy([]byte{1})
	first, second := octet.Put(b, 1, 1), octet.Put(b, 2, 1)
	if !bytes.Equal(first, []byte{1, 1}) || !bytes.Equal(second, []byte{1, 2}) {
		t.Errorf("R2: two answers of Put share memory: %v, %v", first, second)
	}
}

func TestGet(t *testing.T) {
	for _, n := range numbers() {
		for size := 0; size <= 8; size++ {
			text := lowest(n, size)
			want := n
			if size < 8 {
				want = n % (1 << (8 * size))
			}
			for _, more := range [][]byte{nil, {0}, {0xff, 1}} {
				long := append(bytes.Clone(text), more...)
				b := roomy(long)
				if got, ok := octet.Get(b, size); got != want || !ok {
					t.Errorf("P2.1: Get(%v, %d): %d, %v; must be %d", long, size, got, ok, want)
				}
				untouched(t, "Get", b, long)
			}
			if size == 0 {
				continue
			}
			if got, ok := octet.Get(roomy(text[:size-1]), size); got != 0 || ok {
				t.Errorf("P2.1: Get(%v, %d), one byte too few: %d, %v", text[:size-1], size, got, ok)
			}
		}
	}
}

func TestGetOfWrongSizes(t *testing.T) {
	for _, text := range [][]byte{nil, {1}, bytes.Repeat([]byte{1}, 8), bytes.Repeat([]byte{1}, 9), bytes.Repeat([]byte{1}, 100)} {
		for _, size := range sizes() {
			if size >= 0 && size <= 8 {
				continue
			}
			if got, ok := octet.Get(text, size); got != 0 || ok {
				t.Errorf("P2.1: Get of %d bytes, size %d: %d, %v", len(text), size, got, ok)
			}
		}
	}
	for size := 1; size <= 8; size++ {
		if got, ok := octet.Get(nil, size); got != 0 || ok {
			t.Errorf("P2.1: Get(nil, %d): %d, %v", size, got, ok)
		}
	}
	for _, none := range [][]byte{nil, {}} {
		if got, ok := octet.Get(none, 0); got != 0 || !ok {
			t.Errorf("P2.1: Get of no bytes, size 0: %d, %v", got, ok)
		}
	}
}

func TestLess(t *testing.T) {
	for _, c := range []struct {
		a, b string
		want bool
	}{
		{"a", "ab", true}, {"ab", "a", false}, {"a", "a", false}, {"", "", false}, {"", "\x00", true}, {"\x00", "", false},
		{"a", "b", true}, {"b", "a", false}, {"b", "aa", false}, {"ab", "b", true}, {"\x7f", "\x80", true}, {"\xff", "\x00", false},
	} {
		if got := octet.Less([]byte(c.a), []byte(c.b)); got != c.want {
			t.Errorf("P2.2: Less(%q, %q): %v", c.a, c.b, got)
		}
	}
	if octet.Less(nil, []byte{}) || octet.Less([]byte{}, nil) {
		t.Error("R4: Less of nil and an empty text")
	}
}

func TestPairs(t *testing.T) {
	all := texts()
	for _, a := range all {
		for _, b := range all {
			x, y := roomy(a), roomy(b)
			if got, want := octet.Less(x, y), bytes.Compare(a, b) < 0; got != want {
				t.Errorf("P2.2: Less(%v, %v): %v", a, b, got)
			}
			want := 0
			for want < len(a) && want < len(b) && a[want] == b[want] {
				want++
			}
			if got := octet.Shared(x, y); got != want {
				t.Errorf("P2.2: Shared(%v, %v): %d, must be %d", a, b, got, want)
			}
			untouched(t, "Less and Shared, first text", x, a)
			untouched(t, "Less and Shared, second text", y, b)
		}
	}
}

func TestShared(t *testing.T) {
	for _, c := range []struct {
		a, b string
		want int
	}{
		{"", "", 0}, {"", "abc", 0}, {"abc", "", 0}, {"a", "b", 0}, {"abc", "abc", 3}, {"ab", "abcd", 2}, {"abcd", "ab", 2},
		{"abx", "aby", 2}, {"xab", "yab", 0}, {"axb", "ayb", 1}, {"abxcd", "aby", 2},
	} {
		if got := octet.Shared([]byte(c.a), []byte(c.b)); got != c.want {
			t.Errorf("P2.2: Shared(%q, %q): %d", c.a, c.b, got)
		}
	}
}

func TestNext(t *testing.T) {
	for _, c := range []struct{ b, want string }{
		{"\x01\xff", "\x02"}, {"a", "b"}, {"ab", "ac"}, {"\x00", "\x01"}, {"\x7f", "\x80"}, {"\xfe", "\xff"}, {"\xff\x00", "\xff\x01"},
		{"a\xff\xff", "b"}, {"a\xffb", "a\xffc"}, {"a\xffb\xff", "a\xffc"}, {"\xfe\xff\xff\xff", "\xff"}, {"\xff\xfe\xff", "\xff\xff"}, {"\x00\xff", "\x01"},
	} {
		b := roomy([]byte(c.b))
		got, ok := octet.Next(b)
		if string(got) != c.want || !ok {
			t.Errorf("P2.2: Next(%q): %q, %v; must be %q", c.b, got, ok, c.want)
		}
		untouched(t, "Next", b, []byte(c.b))
		whole := got[:cap(got)]
		for i := range whole {
			whole[i] ^= 0xff
		}
		untouched(t, "a write into Next's answer", b, []byte(c.b))
	}
}

func TestNextOfNone(t *testing.T) {
	for _, text := range [][]byte{nil, {}, {0xff}, {0xff, 0xff}, bytes.Repeat([]byte{0xff}, 300)} {
		b := roomy(text)
		if got, ok := octet.Next(b); got != nil || ok {
			t.Errorf("P2.2: Next(%v): %v, %v", text, got, ok)
		}
		untouched(t, "Next", b, text)
	}
	if got, ok := octet.Next(nil); got != nil || ok {
		t.Errorf("P2.2: Next(nil): %v, %v", got, ok)
	}
}

// TestNextIsTheLeast: the texts from Next on are just those that stand behind b and do not begin with it.
func TestNextIsTheLeast(t *testing.T) {
	all := texts()
	for _, b := range all {
		next, ok := octet.Next(b)
		for _, other := range all {
			behind := bytes.Compare(other, b) > 0 && !bytes.HasPrefix(other, b)
			if got := ok && bytes.Compare(other, next) >= 0; got != behind {
				t.Errorf("P2.2: Next(%v): %v, %v, against %v", b, next, ok, other)
			}
		}
	}
}
