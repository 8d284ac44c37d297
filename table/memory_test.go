package table_test

import (
	"bytes"
	"slices"
	"testing"

	"marigraph/api"
	"marigraph/table"
)

// shared are entries of two blocks whose Keys come from one another, so that a reader may be tempted to keep them together.
func shared() []api.Entry {
	return []api.Entry{there("k", "v1"), there("ka", "v2"), gone("kab"), there("kabc", ""), there("kabcd", "v3"), gone("kabce"), there("l", "v4"), there("la", "v5"), there("lab", "v6"), gone("m")}
}

// handedIn is a copy of l with marked room behind each text and behind the list.
func handedIn(l []api.Entry) []api.Entry {
	out := make([]api.Entry, 0, len(l)+1)
	for _, e := range l {
		out = append(out, api.Entry{Key: roomy(e.Key), Value: roomy(e.Value), Gone: e.Gone})
	}
	out[:len(l)+1][len(l)] = there("spare", "room")
	return out
}

// texts are all Keys and Values of l.
func texts(l []api.Entry) [][]byte {
	var out [][]byte
	for _, e := range l {
		out = append(out, e.Key, e.Value)
	}
	return out
}

func TestBuildLeavesWhatIsHandedIn(t *testing.T) {
	with := gone("k")
	with.Value = []byte("not seen")
	for _, l := range [][]api.Entry{nil, shared(), {with}, {there("b", "1"), there("a", "2")}, {there("", "v")}, many(30), append(many(9), gone("0")), many(65536)} {
		handed := handedIn(l)
		b, _ := table.Build(handed...)
		spoil(b)
		for i := range l {
			untouched(t, "Build, a Key", handed[i].Key, l[i].Key)
			untouched(t, "Build, a Value", handed[i].Value, l[i].Value)
			if handed[i].Gone != l[i].Gone {
				t.Errorf("R2: Build changed entry %d", i)
			}
		}
		if !same(handed[:len(l)+1][len(l)], there("spare", "room")) {
			t.Error("R2: Build wrote behind the list")
		}
	}
}

func TestBuildIsNewMemory(t *testing.T) {
	for _, l := range [][]api.Entry{shared(), {there("k", "v")}, {gone("k")}, many(8)} {
		want := right(blocksOf(l)...).laid()
		handed := handedIn(l)
		first, _ := table.Build(handed...)
		second, _ := table.Build(handed...)
		spoil(first)
		for _, s := range texts(handed) {
			spoil(s)
		}
		if !bytes.Equal(second, want) {
			t.Error("R2: Build's answer shares memory with another, or with what was handed in")
		}
	}
}

// TestOpenKeepsNothing turns what was handed in behind Open: no answer is another one.
func TestOpenKeepsNothing(t *testing.T) {
	for _, l := range [][]api.Entry{shared(), {there("k", "v")}, many(100)} {
		b := roomy(built(t, l...))
		x := opens(t, "a table", b)
		y := opens(t, "the same table", b)
		spoil(b)
		answers(t, "a table whose bytes were turned", x, l)
		answers(t, "the same table", y, l)
	}
}

// listsOf are the calls that answer lists, each of all entries of a table of shared.
func listsOf(x *table.Table) map[string]func() []api.Entry {
	return map[string]func() []api.Entry{
		"All":                 x.All,
		"Range without ends":  func() []api.Entry { return x.Range(nil, nil) },
		"Range with two ends": func() []api.Entry { return x.Range([]byte("k"), []byte("n")) },
	}
}

// TestListsAreNewMemory writes into each text of an answer, its spare room too: none of the others is changed, nor is the table.
func TestListsAreNewMemory(t *testing.T) {
	want := shared()
	x := opens(t, "a table", built(t, want...))
	for what, list := range listsOf(x) {
		for spoilt := range texts(want) {
			got, other := list(), list()
			spoil(texts(got)[spoilt])
			for i, s := range texts(got) {
				if i != spoilt && !bytes.Equal(s, texts(want)[i]) {
					t.Errorf("R2: %s: texts %d and %d of one answer share memory", what, spoilt, i)
				}
			}
			if !slices.EqualFunc(other, want, same) {
				t.Errorf("R2: two answers of %s share memory", what)
			}
			answers(t, what+": a table whose answer was turned", x, want)
		}
	}
}

// TestListsShareNoSpareRoom writes behind each text of an answer and behind the answer, as an append does.
func TestListsShareNoSpareRoom(t *testing.T) {
	want := shared()
	x := opens(t, "a table", built(t, want...))
	for what, list := range listsOf(x) {
		got := list()
		for _, s := range texts(got) {
			_ = append(s, "written behind"...)
		}
		_ = append(got, there("written", "behind"))
		if !slices.EqualFunc(got, want, same) {
			t.Errorf("R2: the spare room of %s's answer is another text's: %v", what, got)
		}
		clear(got[:cap(got)])
		answers(t, what+": a table whose answer was written over", x, want)
	}
}

// TestRangeKeepsNoEnds turns the ends behind Range, and an answer's Keys behind another call with them.
func TestRangeKeepsNoEnds(t *testing.T) {
	want := shared()
	x := opens(t, "a table", built(t, want...))
	from, to := roomy([]byte("k")), roomy([]byte("n"))
	got := x.Range(from, to)
	spoil(from)
	spoil(to)
	if !slices.EqualFunc(got, want, same) {
		t.Error("R2: Range's answer shares memory with its ends")
	}
	l := x.All()
	part := x.Range(l[2].Key, l[9].Key)
	for _, s := range texts(part) {
		spoil(s)
	}
	if !slices.EqualFunc(l, want, same) {
		t.Error("R2: Range's answer shares memory with its ends, or with All's answer")
	}
}

func TestGetIsNewMemory(t *testing.T) {
	want := shared()
	x := opens(t, "a table", built(t, want...))
	for i, e := range want {
		key := roomy(e.Key)
		got, _ := x.Get(key)
		other, _ := x.Get(key)
		spoil(got.Key)
		if !bytes.Equal(got.Value, e.Value) {
			t.Errorf("R2: Key and Value of Get's answer %d share memory", i)
		}
		spoil(got.Value)
		untouched(t, "a write into Get's answer", key, e.Key)
		spoil(key)
		if !same(other, e) {
			t.Errorf("R2: Get's answer %d shares memory with another, or with its key", i)
		}
		answers(t, "a table whose Get was turned", x, want)
	}
}

func TestBoundsIsNewMemory(t *testing.T) {
	for _, want := range [][]api.Entry{shared(), shared()[:8], {there("k", "v")}, {gone("k")}} {
		x := opens(t, "a table", built(t, want...))
		first, last := x.Bounds()
		again, end := x.Bounds()
		_ = append(first, "written behind"...)
		spoil(first)
		if !bytes.Equal(last, want[len(want)-1].Key) {
			t.Error("R2: the two of Bounds share memory")
		}
		spoil(last)
		if !bytes.Equal(again, want[0].Key) || !bytes.Equal(end, want[len(want)-1].Key) {
			t.Error("R2: two answers of Bounds share memory")
		}
		answers(t, "a table whose Bounds were turned", x, want)
	}
}
