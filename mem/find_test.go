package mem_test

import (
	"bytes"
	"fmt"
	"math/rand"
	"slices"
	"testing"

	"marigraph/api"
	"marigraph/mem"
	"marigraph/table"
)

// gets fails unless Get of key answers the entry of l that has it.
func gets(t *testing.T, m *mem.Mem, l []api.Entry, key []byte) {
	t.Helper()
	handed := roomy(key)
	want, there := plainGet(l, key)
	if e, ok := m.Get(handed); ok != there || !same(e, want) {
		t.Errorf("P8.1: Get(%.20q) of %s: %v, %v; must be %v, %v", key, show(l), e, ok, want, there)
	}
	untouched(t, "Get's key", handed, key)
}

// ranges fails unless Range of these ends answers what of l lies between.
func ranges(t *testing.T, m *mem.Mem, l []api.Entry, from, to []byte) {
	t.Helper()
	a, b := roomy(from), roomy(to)
	want := plainRange(l, from, to)
	if got := m.Range(a, b); !slices.EqualFunc(got, want, same) {
		t.Errorf("P8.1: Range(%.20q, %.20q) of %s: %s; must be %s", from, to, show(l), show(got), show(want))
	}
	untouched(t, "Range's from", a, from)
	untouched(t, "Range's to", b, to)
}

// between are Keys around those of l: each of them, just behind it, ahead of it, shorter and longer ones, and such as stand ahead of all or behind all.
func between(l []api.Entry) [][]byte {
	out := [][]byte{nil, {}, {0}, {0xff}, bytes.Repeat([]byte{0xff}, 300), bytes.Repeat([]byte{'0'}, 300)}
	for _, e := range l {
		out = append(out, e.Key, append(bytes.Clone(e.Key), 0))
		if len(e.Key) == 0 {
			continue
		}
		lower := bytes.Clone(e.Key)
		lower[len(lower)-1]--
		higher := bytes.Clone(e.Key)
		higher[len(higher)-1]++
		out = append(out, append(lower, 0xff), higher, e.Key[:len(e.Key)-1])
	}
	return out
}

func TestOfNone(t *testing.T) {
	put := mem.New()
	put.Put()
	put.Put([]api.Entry{}...)
	for what, m := range map[string]*mem.Mem{"New": mem.New(), "Put of none": put, "a Copy of none": mem.New().Copy()} {
		if m.Len() != 0 || m.Bytes() != 0 || len(m.All()) != 0 {
			t.Errorf("P8.1: %s: Len %d, Bytes %d, All %s", what, m.Len(), m.Bytes(), show(m.All()))
		}
		for _, key := range between(ascending(2)) {
			if e, ok := m.Get(key); !isZero(e) || ok {
				t.Errorf("P8.1: %s: Get(%q): %v, %v", what, key, e, ok)
			}
			for _, to := range between(ascending(2)) {
				if l := m.Range(key, to); len(l) != 0 {
					t.Errorf("P8.1: %s: Range(%q, %q): %s", what, key, to, show(l))
				}
			}
		}
	}
}

// TestGet asks for each Key, for ones between, ahead of all and behind all, and for no bytes.
func TestGet(t *testing.T) {
	for n := range 35 {
		l := ascending(n)
		m := holding(l...)
		for _, key := range between(l) {
			gets(t, m, l, key)
		}
		for _, key := range [][]byte{nil, {}, roomy(nil)} {
			if e, ok := m.Get(key); !isZero(e) || ok {
				t.Errorf("P8.1: Get of no bytes, of %d entries: %v, %v", n, e, ok)
			}
		}
	}
}

// TestKeyOfNoBytes: it is a Key like others, ahead of all.
func TestKeyOfNoBytes(t *testing.T) {
	for _, first := range []api.Entry{there("", ""), there("", "v"), gone("")} {
		l := append([]api.Entry{first}, ascending(9)...)
		m := holding(l...)
		answers(t, "a Key of no bytes", m, l)
		for _, none := range [][]byte{nil, {}, roomy(nil)} {
			if e, ok := m.Get(none); !same(e, first) || !ok {
				t.Errorf("P8.1: Get of no bytes: %v, %v; must be %v", e, ok, first)
			}
			if got := m.Range(none, []byte{0}); len(got) != 1 || !same(got[0], first) {
				t.Errorf("P8.1: Range of no bytes to a byte 0: %s", show(got))
			}
		}
		for _, from := range between(l) {
			gets(t, m, l, from)
			for _, to := range between(l) {
				ranges(t, m, l, from, to)
			}
		}
	}
}

// TestKeysThatBeginOthers asks for each of them, and for each pair as ends.
func TestKeysThatBeginOthers(t *testing.T) {
	l := []api.Entry{there("a", "1"), gone("a\x00"), there("a\x00\x00", "2"), there("aa", "3"), there("aaa", ""), gone("aab"), there("ab", "4"), there("\xff", "5"), gone("\xff\xff"), there("\xff\xff\xff", "6")}
	m := holding(l...)
	answers(t, "Keys that begin others", m, l)
	for _, from := range between(l) {
		gets(t, m, l, from)
		for _, to := range between(l) {
			ranges(t, m, l, from, to)
		}
	}
}

// TestRange goes through each pair of ends.
func TestRange(t *testing.T) {
	for _, n := range []int{0, 1, 2, 3, 7, 8, 9, 20} {
		l := ascending(n)
		m := holding(l...)
		for _, from := range between(l) {
			for _, to := range between(l) {
				ranges(t, m, l, from, to)
			}
		}
	}
}

func TestRangeByHand(t *testing.T) {
	l := []api.Entry{there("b", "1"), gone("d"), there("f", "3"), there("h", "4"), gone("j")}
	m := holding(l...)
	for _, c := range []struct {
		from, to   string
		begin, end int
	}{
		{"", "", 0, 5}, {"", "b", 0, 0}, {"", "b\x00", 0, 1}, {"", "c", 0, 1}, {"", "j", 0, 4}, {"", "k", 0, 5}, {"b", "", 0, 5}, {"c", "", 1, 5}, {"j", "", 4, 5}, {"j\x00", "", 0, 0}, {"k", "", 0, 0},
		{"b", "j", 0, 4}, {"b", "k", 0, 5}, {"a", "z", 0, 5}, {"d", "h", 1, 3}, {"d", "e", 1, 2}, {"d", "d\x00", 1, 2}, {"c", "g", 1, 3}, {"e", "f", 0, 0}, {"c", "d", 0, 0},
		{"d", "d", 0, 0}, {"e", "e", 0, 0}, {"h", "d", 0, 0}, {"i", "c", 0, 0}, {"z", "a", 0, 0}, {"k", "b", 0, 0}, {"d\x00", "d", 0, 0}, {"h", "f\xff", 0, 0},
	} {
		if got := m.Range([]byte(c.from), []byte(c.to)); !slices.EqualFunc(got, l[c.begin:c.end], same) {
			t.Errorf("P8.1: Range(%q, %q): %s; must be %s", c.from, c.to, show(got), show(l[c.begin:c.end]))
		}
	}
}

// TestRangeOfNoEnds: nil and empty ends are the same.
func TestRangeOfNoEnds(t *testing.T) {
	l := ascending(20)
	m := holding(l...)
	for _, from := range [][]byte{nil, {}, roomy(nil)} {
		for _, to := range [][]byte{nil, {}, roomy(nil)} {
			if got := m.Range(from, to); !slices.EqualFunc(got, l, same) {
				t.Errorf("P8.1: Range without ends: %s", show(got))
			}
			if got := m.Range(l[8].Key, to); !slices.EqualFunc(got, l[8:], same) {
				t.Errorf("P8.1: Range without a to: %s", show(got))
			}
			if got := m.Range(from, l[8].Key); !slices.EqualFunc(got, l[:8], same) {
				t.Errorf("P8.1: Range without a from: %s", show(got))
			}
		}
	}
}

// TestAsTable holds Get, Range, All and Len against those of a table of the same entries.
func TestAsTable(t *testing.T) {
	r := rand.New(rand.NewSource(82))
	for range 300 {
		l := plainPut([]api.Entry{there("a", "1")}, thrown(r, 60)...)
		l = slices.DeleteFunc(l, func(e api.Entry) bool { return len(e.Key) == 0 }) // no table takes it
		b, _ := table.Build(l...)
		x, why := table.Open(b)
		if why != api.OK {
			t.Fatalf("P8.1: the test's own table of %s: %v", show(l), why)
		}
		m := mem.New()
		for _, i := range r.Perm(len(l)) {
			m.Put(l[i])
		}
		if !slices.EqualFunc(m.All(), x.All(), same) || m.Len() != x.Len() {
			t.Fatalf("P8.1: All of %s is not as the table's", show(l))
		}
		for range 30 {
			from, to := thrownKey(r), thrownKey(r)
			e, ok := m.Get(from)
			if want, there := x.Get(from); !same(e, want) || ok != there {
				t.Errorf("P8.1: Get(%q) of %s: %v, %v; the table's: %v, %v", from, show(l), e, ok, want, there)
			}
			if got, want := m.Range(from, to), x.Range(from, to); !slices.EqualFunc(got, want, same) {
				t.Errorf("P8.1: Range(%q, %q) of %s: %s; the table's: %s", from, to, show(l), show(got), show(want))
			}
		}
	}
}

// TestAskingChangesNothing: all calls but Put leave the Mem as it was.
func TestAskingChangesNothing(t *testing.T) {
	l := ascending(20)
	m := holding(l...)
	for i := range 3 {
		for _, key := range between(l) {
			m.Get(key)
			m.Range(key, nil)
			m.Range(nil, key)
		}
		m.Copy()
		answers(t, fmt.Sprintf("a Mem that was asked, round %d", i), m, l)
	}
}
