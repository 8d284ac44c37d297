package mem_test

import (
	"fmt"
	"math/rand"
	"slices"
	"testing"

	"marigraph/api"
	"marigraph/mem"
)

func TestRunAndExamplesOfTheDocument(t *testing.T) {
	m := mem.New()
	m.Put(there("b", ""), there("a", ""))
	if l := m.All(); len(l) != 2 || string(l[0].Key) != "a" || string(l[1].Key) != "b" {
		t.Errorf("P8.1: Put(b, a): All %s; must be a b", show(l))
	}
	if e, ok := mem.New().Get([]byte("a")); !isZero(e) || ok {
		t.Errorf("P8.1: Get of none: %v, %v; must be false", e, ok)
	}
	m.Put(gone("a"))
	if e, ok := m.Get([]byte("a")); string(e.Key) != "a" || !e.Gone || !ok {
		t.Errorf("P8.1: Put of a Gone one: %v, %v; it must be there, Gone", e, ok)
	}
}

// TestPutByHand: what is put, call by call, and what must be there then.
func TestPutByHand(t *testing.T) {
	for i, c := range []struct {
		puts  [][]api.Entry
		want  []api.Entry
		bytes int
	}{
		{nil, nil, 0},
		{[][]api.Entry{nil, {}, nil}, nil, 0},
		{[][]api.Entry{{there("k", "v")}}, []api.Entry{there("k", "v")}, 2},
		{[][]api.Entry{{there("k", "v")}, nil, {}}, []api.Entry{there("k", "v")}, 2},
		{[][]api.Entry{{there("k", "")}}, []api.Entry{there("k", "")}, 1},
		{[][]api.Entry{{there("", "v")}}, []api.Entry{there("", "v")}, 1},
		{[][]api.Entry{{{}}}, []api.Entry{{}}, 0},
		{[][]api.Entry{{gone("")}}, []api.Entry{gone("")}, 0},
		{[][]api.Entry{{goneWith("", "value")}}, []api.Entry{gone("")}, 0},
		{[][]api.Entry{{gone("key")}}, []api.Entry{gone("key")}, 3},
		{[][]api.Entry{{goneWith("key", "value")}}, []api.Entry{gone("key")}, 3},
		{[][]api.Entry{{there("b", "1"), there("a", "22")}}, []api.Entry{there("a", "22"), there("b", "1")}, 5},
		{[][]api.Entry{{there("b", "1")}, {there("a", "22")}}, []api.Entry{there("a", "22"), there("b", "1")}, 5},
		{[][]api.Entry{{there("ab", "1"), there("a", "2"), there("", "3"), there("abc", "4")}}, []api.Entry{there("", "3"), there("a", "2"), there("ab", "1"), there("abc", "4")}, 10},
		{[][]api.Entry{{there("a", "1"), there("a\x00", "2"), there("a", "3")}}, []api.Entry{there("a", "3"), there("a\x00", "2")}, 5},
		{[][]api.Entry{{there("\x80", ""), there("\x7f", ""), there("\xff\xff", ""), there("\xff", ""), there("\x00", "")}}, []api.Entry{there("\x00", ""), there("\x7f", ""), there("\x80", ""), there("\xff", ""), there("\xff\xff", "")}, 6},
		{[][]api.Entry{{there("k", "first"), there("k", "last one")}}, []api.Entry{there("k", "last one")}, 9},
		{[][]api.Entry{{there("k", "first")}, {there("k", "last one")}}, []api.Entry{there("k", "last one")}, 9},
		{[][]api.Entry{{there("k", "first")}, {there("k", "")}}, []api.Entry{there("k", "")}, 1},
		{[][]api.Entry{{there("k", "first"), goneWith("k", "later")}}, []api.Entry{gone("k")}, 1},
		{[][]api.Entry{{there("k", "first")}, {gone("k")}}, []api.Entry{gone("k")}, 1},
		{[][]api.Entry{{gone("k"), there("k", "later")}}, []api.Entry{there("k", "later")}, 6},
		{[][]api.Entry{{gone("k")}, {there("k", "")}}, []api.Entry{there("k", "")}, 1},
		{[][]api.Entry{{there("k", "1"), gone("k"), there("k", "3"), gone("k")}}, []api.Entry{gone("k")}, 1},
		{[][]api.Entry{{there("", "1"), there("", "22")}, {there("", "333")}}, []api.Entry{there("", "333")}, 3},
	} {
		m := mem.New()
		for _, l := range c.puts {
			m.Put(l...)
		}
		if m.Bytes() != c.bytes {
			t.Errorf("P8.1: case %d: Bytes %d; must be %d", i, m.Bytes(), c.bytes)
		}
		answers(t, fmt.Sprintf("case %d", i), m, c.want)
	}
}

// orders answers each order of l.
func orders(l []api.Entry) [][]api.Entry {
	if len(l) == 0 {
		return [][]api.Entry{nil}
	}
	var out [][]api.Entry
	for i := range l {
		for _, rest := range orders(slices.Delete(slices.Clone(l), i, i+1)) {
			out = append(out, append(rest, l[i]))
		}
	}
	return out
}

// TestPutOfEachOrder puts the same entries in each order, in one call and in as many as there are: the same must be there.
func TestPutOfEachOrder(t *testing.T) {
	want := []api.Entry{there("", "none"), gone("a"), there("a\x00", ""), there("ab", "v"), gone("b"), there("\xff", "last")}
	for _, l := range orders(want) {
		answers(t, "Put of all: "+show(l), holding(l...), want)
		m := mem.New()
		for i, e := range l {
			m.Put(e)
			answers(t, fmt.Sprintf("%d Puts of one: %s", i+1, show(l)), m, plainPut(nil, l[:i+1]...))
		}
	}
}

// TestPutOfEachNumber puts rising, falling and shuffled Keys.
func TestPutOfEachNumber(t *testing.T) {
	r := rand.New(rand.NewSource(81))
	for _, n := range []int{1, 2, 3, 4, 5, 7, 8, 9, 31, 32, 33, 255, 256, 257, 1000, 8192, 65536, 70000} {
		rising := ascending(n)
		falling := slices.Clone(rising)
		slices.Reverse(falling)
		shuffled := slices.Clone(rising)
		r.Shuffle(n, func(i, j int) { shuffled[i], shuffled[j] = shuffled[j], shuffled[i] })
		for what, l := range map[string][]api.Entry{"rising": rising, "falling": falling, "shuffled": shuffled} {
			answers(t, fmt.Sprintf("Put of %d %s", n, what), holding(l...), rising)
			m := mem.New()
			for _, e := range l {
				m.Put(e)
			}
			answers(t, fmt.Sprintf("%d Puts of one, %s", n, what), m, rising)
			m.Put(l...)
			answers(t, fmt.Sprintf("Put of %d %s, twice", n, what), m, rising)
		}
	}
}

// turns are what may be put under one Key.
func turns(key string) []api.Entry {
	return []api.Entry{there(key, ""), there(key, "v"), there(key, "longer"), there(key, long(300)), gone(key), goneWith(key, ""), goneWith(key, "not seen"), goneWith(key, long(300))}
}

// TestPutOfTheSameKey lays each kind of entry over each other one, at each place of some lists, in one Put and in two.
func TestPutOfTheSameKey(t *testing.T) {
	for n := range 6 {
		for place := range n {
			key := string(ascending(n)[place].Key)
			for i, first := range turns(key) {
				for j, second := range turns(key) {
					what := fmt.Sprintf("turn %d over turn %d at %d of %d", j, i, place, n)
					begin := ascending(n)
					want := slices.Clone(begin)
					want[place] = second
					if second.Gone {
						want[place].Value = nil
					}
					m := holding(begin...)
					m.Put(first, second)
					answers(t, what+", in one Put", m, want)
					m = holding(begin...)
					m.Put(first)
					answers(t, what+", the first", m, plainPut(begin, first))
					m.Put(second)
					answers(t, what+", in two", m, want)
					if m.Len() != n {
						t.Errorf("P8.1: %s: Len %d", what, m.Len())
					}
				}
			}
		}
	}
}

// TestGoneHasNoValue: a Gone one's Value is neither told nor counted, whatever it was.
func TestGoneHasNoValue(t *testing.T) {
	for _, value := range []string{"", "v", "not seen", long(4095), long(4096), long(70000)} {
		for what, m := range map[string]*mem.Mem{
			"alone":                    holding(goneWith("key", value)),
			"over one without a Value": holding(there("key", ""), goneWith("key", value)),
			"over one with a Value":    holding(there("key", "some"), goneWith("key", value)),
			"over a Gone one":          holding(goneWith("key", "some"), goneWith("key", value)),
		} {
			e, ok := m.Get([]byte("key"))
			if !ok || !e.Gone || string(e.Key) != "key" || len(e.Value) > 0 {
				t.Errorf("P8.1: Get of a Gone one of %d bytes, %s: %s, %v", len(value), what, show([]api.Entry{e}), ok)
			}
			if m.Bytes() != 3 || m.Len() != 1 {
				t.Errorf("P8.1: a Gone one of %d bytes, %s: Bytes %d, Len %d; must be 3, 1", len(value), what, m.Bytes(), m.Len())
			}
			answers(t, "a Gone one "+what, m, []api.Entry{gone("key")})
		}
	}
}

// TestPutOfLongTexts: the chapter names no limits, so longer Keys and Values than a table takes are kept whole.
func TestPutOfLongTexts(t *testing.T) {
	lengths := []int{0, 1, 254, 255, 256, 257, 4095, 4096, 65535, 65536, 1 << 20}
	var l []api.Entry
	for _, n := range lengths {
		l = append(l, there(long(n), long(n)))
		answers(t, fmt.Sprintf("a Key and a Value of %d bytes", n), holding(l[len(l)-1]), l[len(l)-1:])
		answers(t, fmt.Sprintf("texts of up to %d bytes", n), holding(l...), l)
	}
}

// TestThrownPlays holds each call against a plain list, behind each of some thrown Puts.
func TestThrownPlays(t *testing.T) {
	r := rand.New(rand.NewSource(8))
	for range 200 {
		m := mem.New()
		var want []api.Entry
		for range 30 {
			l := thrown(r, 6)
			m.Put(l...)
			want = plainPut(want, l...)
			answers(t, "a thrown play", m, want)
			gets(t, m, want, thrownKey(r))
			ranges(t, m, want, thrownKey(r), thrownKey(r))
		}
	}
}
