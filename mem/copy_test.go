package mem_test

import (
	"fmt"
	"math/rand"
	"testing"

	"marigraph/api"
	"marigraph/mem"
)

// changes are Puts that turn some of ascending(20) in the ways that a Put can.
func changes() [][]api.Entry {
	l := ascending(20)
	key := func(i int) string { return string(l[i].Key) }
	return [][]api.Entry{
		nil,
		{there("", "ahead of all")},
		{there("zzz", "behind all")},
		{there(key(9)+"0", "between")},
		{gone(key(9) + "0")},
		{there(key(0), "longer than it was")},
		{there(key(9), "")},
		{there(key(2), "not Gone any more")},
		{gone(key(0)), goneWith(key(19), "not seen")},
		{gone(key(5))},
		{there(key(1), "1"), there("new", "2"), gone(key(4)), there(key(1), "3")},
	}
}

func TestCopyIsTheSame(t *testing.T) {
	for _, l := range [][]api.Entry{nil, {there("", "")}, {gone("k")}, {there("k", "v")}, ascending(20), ascending(1000)} {
		m := holding(l...)
		c := m.Copy()
		if c == nil || c == m {
			t.Fatalf("P8.1: Copy of %s is none, or the Mem itself", show(l))
		}
		answers(t, "a Copy", c, l)
		answers(t, "a Copy of a Copy", c.Copy(), l)
		answers(t, "a Mem that was copied", m, l)
	}
}

// TestCopyByItself turns one of a Mem and its Copy by Puts, while the other must stay.
func TestCopyByItself(t *testing.T) {
	for i, l := range changes() {
		begin := ascending(20)
		m := holding(begin...)
		c := m.Copy()
		c.Put(l...)
		answers(t, fmt.Sprintf("a Mem whose Copy was turned by change %d", i), m, begin)
		answers(t, fmt.Sprintf("a Copy turned by change %d", i), c, plainPut(begin, l...))

		m = holding(begin...)
		c = m.Copy()
		m.Put(l...)
		answers(t, fmt.Sprintf("a Copy whose Mem was turned by change %d", i), c, begin)
		answers(t, fmt.Sprintf("a Mem turned by change %d", i), m, plainPut(begin, l...))
	}
}

// TestCopyOfNoneByItself: where nothing is, nothing may be shared either.
func TestCopyOfNoneByItself(t *testing.T) {
	m := mem.New()
	c := m.Copy()
	m.Put(there("m", "1"))
	answers(t, "a Copy of none", c, nil)
	c.Put(there("c", "2"))
	answers(t, "a Copy of none, turned", c, []api.Entry{there("c", "2")})
	answers(t, "a Mem that was copied as none", m, []api.Entry{there("m", "1")})
	answers(t, "another New", mem.New(), nil)
}

// TestBothTurned puts into a Mem and its Copy by turns, at the end, where a list may have spare room for both.
func TestBothTurned(t *testing.T) {
	for n := range 20 {
		m := holding(ascending(n)...)
		c := m.Copy()
		inMem, inCopy := ascending(n), ascending(n)
		for i := range 10 {
			first, second := there(fmt.Sprintf("y%d", i), "first"), there(fmt.Sprintf("z%d", i), "second")
			m.Put(first)
			c.Put(second)
			inMem, inCopy = plainPut(inMem, first), plainPut(inCopy, second)
		}
		answers(t, fmt.Sprintf("a Mem of %d, turned by turns", n), m, inMem)
		answers(t, fmt.Sprintf("a Copy of %d, turned by turns", n), c, inCopy)
	}
}

// TestCopyOfACopy turns one of three, each made of the one ahead of it.
func TestCopyOfACopy(t *testing.T) {
	for i, l := range changes() {
		for turned := range 3 {
			m := holding(ascending(20)...)
			c := m.Copy()
			all := []*mem.Mem{m, c, c.Copy()}
			all[turned].Put(l...)
			for j, x := range all {
				want := ascending(20)
				if j == turned {
					want = plainPut(want, l...)
				}
				answers(t, fmt.Sprintf("copy %d, while change %d turned copy %d", j, i, turned), x, want)
			}
		}
	}
}

// TestThrownCopies puts into any of some Mems that come from one another, each held against a plain list.
func TestThrownCopies(t *testing.T) {
	r := rand.New(rand.NewSource(83))
	for range 100 {
		all := []*mem.Mem{mem.New()}
		wants := [][]api.Entry{nil}
		for range 30 {
			i := r.Intn(len(all))
			if r.Intn(4) == 0 {
				all, wants = append(all, all[i].Copy()), append(wants, wants[i])
				continue
			}
			l := thrown(r, 6)
			all[i].Put(l...)
			wants[i] = plainPut(wants[i], l...)
		}
		for i, m := range all {
			answers(t, "one of thrown copies", m, wants[i])
		}
	}
}
