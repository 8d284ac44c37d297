package merge_test

import (
	"fmt"
	"math/rand"
	"slices"
	"testing"

	"marigraph/api"
	"marigraph/merge"
)

func TestLiveByHand(t *testing.T) {
	for _, c := range []struct {
		l, want []api.Entry
	}{
		{nil, nil},
		{list(), nil},
		{list(gone("a")), nil},
		{list(goneWith("a", "value")), nil},
		{list(gone(""), gone("a"), gone("a"), goneWith("b", "v")), nil},
		{list(api.Entry{}), list(api.Entry{})},
		{list(there("", "")), list(there("", ""))},
		{list(there("", "v")), list(there("", "v"))},
		{list(there("a", "")), list(there("a", ""))},
		{list(there("a", "1"), there("b", "2")), list(there("a", "1"), there("b", "2"))},
		{list(there("k", ""), gone("l")), list(there("k", ""))},
		{list(gone("k"), there("l", "1")), list(there("l", "1"))},
		{list(there("a", "1"), gone("b"), there("c", "3"), gone("d"), gone("e"), there("f", "6")), list(there("a", "1"), there("c", "3"), there("f", "6"))},
		{list(there("b", "1"), there("a", "2"), gone("z"), there("c", "3"), there("a", "4")), list(there("b", "1"), there("a", "2"), there("c", "3"), there("a", "4"))},
		{list(there("k", "1"), gone("k"), there("k", "1")), list(there("k", "1"), there("k", "1"))},
		{list(gone("k"), there("k", "1")), list(there("k", "1"))},
	} {
		if got := merge.Live(c.l); !slices.EqualFunc(got, c.want, same) {
			t.Errorf("P9.1: Live of %s: %s; must be %s", show(c.l), show(got), show(c.want))
		}
	}
}

// plainLive is told by Go's own library.
func plainLive(l []api.Entry) []api.Entry {
	return slices.DeleteFunc(slices.Clone(l), func(e api.Entry) bool { return e.Gone })
}

// TestLiveOfThrown: the order in which entries stand is kept, whatever it is.
func TestLiveOfThrown(t *testing.T) {
	r := rand.New(rand.NewSource(96))
	for range 3000 {
		l := thrown(r, 30)
		if got := merge.Live(l); !slices.EqualFunc(got, plainLive(l), same) {
			t.Fatalf("P9.1: Live of %s: %s; must be %s", show(l), show(got), show(plainLive(l)))
		}
	}
	l := ascending(100000)
	if got := merge.Live(l); !slices.EqualFunc(got, plainLive(l), same) {
		t.Errorf("P9.1: Live of %s: %s", show(l), show(got))
	}
}

// TestLiveOfJoin: what a newer row says is Gone is not there, though an older one has it.
func TestLiveOfJoin(t *testing.T) {
	newer := list(gone("a"), there("b", "2"), gone("d"))
	older := list(there("a", "1"), gone("b"), there("c", "1"), gone("e"))
	if got := merge.Live(merge.Join(newer, older)); !slices.EqualFunc(got, list(there("b", "2"), there("c", "1")), same) {
		t.Errorf("P9.1: Live of Join: %s; must be b 2, c 1", show(got))
	}
}

// isRight fails unless Right of l answers want.
func isRight(t *testing.T, l []api.Entry, want bool) {
	t.Helper()
	if merge.Right(l) != want {
		t.Errorf("P9.1: Right of %s: %v", show(l), !want)
	}
}

func TestRightByHand(t *testing.T) {
	for _, c := range []struct {
		l    []api.Entry
		want bool
	}{
		{nil, true},
		{list(), true},
		{list(api.Entry{}), true},
		{list(there("", "")), true},
		{list(gone("")), true},
		{list(there("k", "v")), true},
		{list(there("", ""), there("a", "")), true},
		{list(there("", ""), there("\x00", "")), true},
		{list(there("", ""), there("", "")), false},
		{list(there("a", ""), there("", "")), false},
		{list(there("a", ""), there("a", "")), false},
		{list(there("a", "1"), there("a", "2")), false},
		{list(there("a", "2"), there("a", "1")), false},
		{list(gone("a"), there("a", "1")), false},
		{list(there("a", "1"), gone("a")), false},
		{list(gone("a"), gone("a")), false},
		{list(gone("a"), gone("b")), true},
		{list(there("a", "9"), there("b", "1")), true},
		{list(there("b", "1"), there("a", "9")), false},
		{list(there("b", ""), gone("a")), false},
		{list(there("a", ""), gone("ab"), there("b", "")), true},
		{list(there("ab", ""), there("a", "")), false},
		{list(there("a", ""), there("a\x00", "")), true},
		{list(there("a\x00", ""), there("a", "")), false},
		{list(there("\x7f", ""), there("\x80", "")), true},
		{list(there("\x80", ""), there("\x7f", "")), false},
		{list(there("b", ""), there("aa", "")), false},
		{list(there("aa", ""), there("b", "")), true},
		{list(there("a", ""), there("c", ""), there("b", "")), false},
		{list(there("b", ""), there("a", ""), there("c", "")), false},
		{list(there("a", ""), there("b", ""), there("a", "")), false},
		{list(there("a", ""), there("b", ""), there("b", "")), false},
		{list(there("a", ""), there("a", ""), there("b", "")), false},
	} {
		isRight(t, c.l, c.want)
	}
}

// TestRightAtEachPlace takes rows whose Keys rise, and turns two neighbours, or makes two Keys the same, at each place.
func TestRightAtEachPlace(t *testing.T) {
	for _, begin := range [][]api.Entry{begun(), ascending(2), ascending(3), ascending(300)} {
		isRight(t, begin, true)
		for i := 1; i < len(begin); i++ {
			isRight(t, begin[i:], true)
			isRight(t, begin[:i], true)
			turned := slices.Clone(begin)
			turned[i-1], turned[i] = turned[i], turned[i-1]
			isRight(t, turned, false)
			twice := slices.Clone(begin)
			twice[i].Key = twice[i-1].Key
			isRight(t, twice, false)
			isRight(t, slices.Insert(slices.Clone(begin), i, begin[i]), false)
			isRight(t, append(slices.Clone(begin), begin[i-1]), false)
		}
		slices.Reverse(begin)
		isRight(t, begin, false)
	}
}

// TestRightOfThrown holds Right against each pair of Keys, by Go's own order of texts.
func TestRightOfThrown(t *testing.T) {
	r := rand.New(rand.NewSource(97))
	for range 5000 {
		l := thrown(r, 4)
		want := true
		for i := range l {
			for j := range i {
				want = want && string(l[j].Key) < string(l[i].Key)
			}
		}
		isRight(t, l, want)
		isRight(t, thrownRow(r, 20), true)
	}
}

// areSame fails unless Same of the two, either way round, answers want.
func areSame(t *testing.T, a, b []api.Entry, want bool) {
	t.Helper()
	if merge.Same(a, b) != want || merge.Same(b, a) != want {
		t.Errorf("P9.1: Same of %s and %s: not %v, or not either way round", show(a), show(b), want)
	}
}

func TestSameByHand(t *testing.T) {
	for _, c := range []struct {
		a, b []api.Entry
		want bool
	}{
		{nil, nil, true},
		{nil, list(), true},
		{list(), list(), true},
		{nil, list(api.Entry{}), false},
		{list(), list(there("", "")), false},
		{list(), list(gone("")), false},
		{list(there("a", "1")), list(there("a", "1")), true},
		{list(api.Entry{}), list(there("", "")), true},
		{list(api.Entry{Key: []byte("a")}), list(there("a", "")), true},
		{list(api.Entry{Value: []byte("1")}), list(there("", "1")), true},
		{list(there("a", "1")), list(there("b", "1")), false},
		{list(there("a", "1")), list(there("ab", "1")), false},
		{list(there("a", "1")), list(there("", "1")), false},
		{list(there("a", "1")), list(there("a", "2")), false},
		{list(there("a", "1")), list(there("a", "12")), false},
		{list(there("a", "1")), list(there("a", "")), false},
		{list(there("a", "bc")), list(there("ab", "c")), false},
		{list(there("a", "")), list(gone("a")), false},
		{list(there("a", "1")), list(goneWith("a", "1")), false},
		{list(gone("a")), list(gone("a")), true},
		{list(gone("a")), list(gone("b")), false},
		{list(gone("a")), list(goneWith("a", "not seen")), true},
		{list(goneWith("a", "one")), list(goneWith("a", "two")), true},
		{list(goneWith("a", "one")), list(goneWith("b", "one")), false},
		{list(there("a", "1"), gone("b")), list(there("a", "1"), gone("b")), true},
		{list(there("a", "1"), gone("b")), list(gone("b"), there("a", "1")), false},
		{list(there("a", "1"), there("b", "1")), list(there("b", "1"), there("a", "1")), false},
		{list(there("b", "1"), there("a", "1"), there("a", "1")), list(there("b", "1"), there("a", "1"), there("a", "1")), true},
		{list(there("a", "1"), there("a", "1")), list(there("a", "1")), false},
	} {
		areSame(t, c.a, c.b, c.want)
	}
}

// TestSameAtEachPlace turns one thing of one entry, at each place, and takes away from each end.
func TestSameAtEachPlace(t *testing.T) {
	for _, begin := range [][]api.Entry{begun(), ascending(1), ascending(300), list(there("b", "1"), gone("a"), there("a", "2"))} {
		areSame(t, begin, handedIn(begin), true)
		for i, e := range begin {
			areSame(t, begin, begin[:i], false)
			areSame(t, begin, begin[i+1:], false)
			areSame(t, begin, append(slices.Clone(begin), e), false)
			turned := handedIn(begin)
			turned[i].Gone = !e.Gone
			areSame(t, begin, turned, false)
			turned = handedIn(begin)
			turned[i].Key = append(turned[i].Key, 0)
			areSame(t, begin, turned, false)
			turned = handedIn(begin)
			turned[i].Value = append(turned[i].Value, "more"...)
			areSame(t, begin, turned, e.Gone)
		}
	}
}

// TestSameOfThrown holds Same against what is written out.
func TestSameOfThrown(t *testing.T) {
	r := rand.New(rand.NewSource(98))
	written := func(l []api.Entry) string {
		out := ""
		for _, e := range l {
			if e.Gone {
				e.Value = nil
			}
			out += fmt.Sprintf("%q %q %v,", e.Key, e.Value, e.Gone)
		}
		return out
	}
	for range 5000 {
		a, b := thrown(r, 2), thrown(r, 2)
		areSame(t, a, b, written(a) == written(b))
		areSame(t, a, handedIn(a), true)
	}
}
