package merge_test

import (
	"bytes"
	"slices"
	"testing"

	"marigraph/api"
	"marigraph/merge"
)

// shared are rows whose Keys come from one another, so that their memory may be, too; of the first one all entries are told.
func shared() [][]api.Entry {
	newer := list(there("k", "v1"), there("ka", "v2"), goneWith("kab", "not seen"), there("kabc", ""), there("kabcd", long(100)))
	older := list(there("", "v0"), there("k", "old"), gone("ka"), there("kabcd", "old"), gone("kabce"), there("l", "v4"))
	return rows(newer, nil, older, list(), list(there("l", "older"), there("l"+long(300), "v5")))
}

// askings are lists of rows that have a way each to be told without a copy: one row alone, one among empty ones, a row that is there twice, rows one behind the other.
func askings() map[string][][]api.Entry {
	s := shared()
	return map[string][][]api.Entry{
		"none":                     nil,
		"nil rows":                 rows(nil, nil),
		"one row":                  rows(s[0]),
		"one entry":                rows(list(there("k", "v"))),
		"a Gone one":               rows(list(goneWith("k", "not seen"))),
		"one among empty ones":     rows(nil, s[2], list()),
		"one row twice":            rows(s[0], s[0]),
		"one behind the other":     rows(ascending(20)[:10], ascending(20)[10:]),
		"one ahead of the other":   rows(ascending(20)[10:], ascending(20)[:10]),
		"rows of each other's Key": s,
	}
}

func TestJoinLeavesWhatIsHandedIn(t *testing.T) {
	for what, l := range askings() {
		handed := rowsHandedIn(l)
		got := merge.Join(handed...)
		rowsUnchanged(t, "Join of "+what, handed, l)
		for _, s := range texts(got) {
			_ = append(s, "written behind"...)
		}
		_ = append(got, there("written", "behind"))
		spoilAll(got)
		rowsUnchanged(t, "a write into the answer of Join of "+what, handed, l)
	}
}

func TestJoinKeepsNothing(t *testing.T) {
	for what, l := range askings() {
		want := plainJoin(l)
		handed := rowsHandedIn(l)
		got := merge.Join(handed...)
		for i := range handed {
			spoilAll(handed[i])
			handed[i] = list(there("written", "over"))
		}
		if !slices.EqualFunc(got, want, same) {
			t.Errorf("R2: Join of %s: the answer is %s when what was handed in is turned; must be %s", what, show(got), show(want))
		}
		joins(t, "R2", l, want)
	}
}

// TestJoinOfOneMemory joins rows that are pieces of one list, whose texts are pieces of one another.
func TestJoinOfOneMemory(t *testing.T) {
	text := roomy([]byte("abcdef"))
	all := list(
		api.Entry{Key: text[:1], Value: text},
		api.Entry{Key: text[:2], Value: text[:2]},
		api.Entry{Key: text[:3], Value: text, Gone: true},
		api.Entry{Key: text, Value: text[1:]},
	)
	want := list(there("a", "abcdef"), there("ab", "ab"), gone("abc"), there("abcdef", "bcdef"))
	got := merge.Join(all[1:3], all[:2], all)
	untouched(t, "Join of one memory", text, []byte("abcdef"))
	if !slices.EqualFunc(got, want, same) {
		t.Errorf("P9.1: Join of one memory: %s; must be %s", show(got), show(want))
	}
	live := merge.Live(all)
	untouched(t, "Live of one memory", text, []byte("abcdef"))
	spoil(text)
	if !slices.EqualFunc(got, want, same) || !slices.EqualFunc(live, plainLive(want), same) {
		t.Errorf("R2: Join %s, Live %s, when the one memory is turned", show(got), show(live))
	}
	noneShare(t, "Join of one memory", func() []api.Entry { return merge.Join(all[1:3], all[:2], all) })
	noneShare(t, "Live of one memory", func() []api.Entry { return merge.Live(all) })
}

// noneShare writes into each text of an answer, its spare room too: no other text may change, nor another answer of the same call.
func noneShare(t *testing.T, what string, ask func() []api.Entry) {
	t.Helper()
	want := handedIn(ask())
	for spoilt := range texts(want) {
		got, other := ask(), ask()
		spoil(texts(got)[spoilt])
		for i, s := range texts(got) {
			if i != spoilt && !bytes.Equal(s, texts(want)[i]) {
				t.Errorf("R2: %s: texts %d and %d of one answer share memory", what, spoilt, i)
			}
		}
		if !slices.EqualFunc(other, want, same) {
			t.Errorf("R2: two answers of %s share memory", what)
		}
	}
	got, other := ask(), ask()
	for _, s := range texts(got) {
		_ = append(s, "written behind"...)
	}
	_ = append(got, there("written", "behind"))
	if !slices.EqualFunc(got, want, same) {
		t.Errorf("R2: the spare room of a text of %s is another text's", what)
	}
	spoilAll(got)
	if !slices.EqualFunc(other, want, same) || !slices.EqualFunc(ask(), want, same) {
		t.Errorf("R2: an answer of %s shares memory with another, or with what was handed in", what)
	}
}

func TestJoinsAnswersAreNewMemory(t *testing.T) {
	for what, l := range askings() {
		noneShare(t, "Join of "+what, func() []api.Entry { return merge.Join(l...) })
		handed := rowsHandedIn(l)
		noneShare(t, "Join of roomy "+what, func() []api.Entry { return merge.Join(handed...) })
		rowsUnchanged(t, "many a Join of "+what, handed, l)
	}
}

// liveLists are what Live is asked of.
func liveLists() map[string][]api.Entry {
	return map[string][]api.Entry{
		"none":          nil,
		"one":           list(there("k", "v")),
		"Gone ones":     list(gone("a"), goneWith("b", "not seen")),
		"none that are": plainLive(ascending(20)),
		"both kinds":    ascending(20),
		"no order":      list(there("b", "1"), there("a", "2"), gone("a"), there("b", "1"), there("", "")),
	}
}

func TestLiveLeavesWhatIsHandedIn(t *testing.T) {
	for what, l := range liveLists() {
		handed := handedIn(l)
		got := merge.Live(handed)
		unchanged(t, "Live of "+what, handed, l)
		for _, s := range texts(got) {
			_ = append(s, "written behind"...)
		}
		_ = append(got, there("written", "behind"))
		spoilAll(got)
		unchanged(t, "a write into the answer of Live of "+what, handed, l)
		got = merge.Live(handed)
		spoilAll(handed)
		if !slices.EqualFunc(got, plainLive(l), same) {
			t.Errorf("R2: Live of %s: the answer is %s when what was handed in is turned", what, show(got))
		}
	}
}

func TestLivesAnswersAreNewMemory(t *testing.T) {
	for what, l := range liveLists() {
		noneShare(t, "Live of "+what, func() []api.Entry { return merge.Live(l) })
		handed := handedIn(l)
		noneShare(t, "Live of roomy "+what, func() []api.Entry { return merge.Live(handed) })
		unchanged(t, "many a Live of "+what, handed, l)
	}
}

// TestRightAndSameLeaveWhatIsHandedIn, whether they answer true or false.
func TestRightAndSameLeaveWhatIsHandedIn(t *testing.T) {
	for what, l := range liveLists() {
		for _, m := range liveLists() {
			a, b := handedIn(l), handedIn(m)
			merge.Right(a)
			merge.Same(a, b)
			merge.Same(a, a)
			unchanged(t, "Right or Same of "+what, a, l)
			unchanged(t, "Same of "+what, b, m)
		}
	}
}

// TestSpareRoomIsNotRead: what stands behind a list or a text makes no difference.
func TestSpareRoomIsNotRead(t *testing.T) {
	l := begun()
	handed := handedIn(l)
	other := handedIn(l)
	for _, s := range texts(other) {
		spoil(s[len(s):])
	}
	other[:len(l)+1][len(l)] = there("", "of any kind")
	areSame(t, handed, other, true)
	isRight(t, other, true)
	joins(t, "R5", rows(handed, other), l)
	joins(t, "R5", rows(handed[:0], other[:3], handed[3:3]), l[:3])
	if got := merge.Live(other); !slices.EqualFunc(got, plainLive(l), same) {
		t.Errorf("R5: Live: %s", show(got))
	}
}
