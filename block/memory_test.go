package block_test

import (
	"bytes"
	"slices"
	"testing"

	"marigraph/api"
	"marigraph/block"
)

// shared are entries whose Keys come from one another, so that a reader may be tempted to keep them together.
func shared() []api.Entry {
	return []api.Entry{there("k", "v1"), there("ka", "v2"), gone("kab"), there("kabc", ""), there("kabcd", "v3"), gone("kabce"), there("l", "v4")}
}

// laid is a copy of l with marked room behind each text and behind the list.
func laid(l []api.Entry) []api.Entry {
	out := make([]api.Entry, 0, len(l)+1)
	for _, e := range l {
		out = append(out, api.Entry{Key: roomy(e.Key), Value: roomy(e.Value), Gone: e.Gone})
	}
	out[:len(l)+1][len(l)] = there("spare", "room")
	return out
}

func TestBuildLeavesWhatIsHandedIn(t *testing.T) {
	with := gone("k")
	with.Value = []byte("not seen")
	for _, l := range [][]api.Entry{nil, shared(), {with}, {there("b", "1"), there("a", "2")}, {there("", "v")}, many(30, 4095), many(256, 1)} {
		handed := laid(l)
		b, _ := block.Build(handed...)
		spoil(b)
		for i := range l {
			untouched(t, "Build, a Key", handed[i].Key, l[i].Key)
			untouched(t, "Build, a Value", handed[i].Value, l[i].Value)
			if handed[i].Gone != l[i].Gone {
				t.Errorf("R2: Build changed entry %d", i)
			}
		}
		if !same(handed[:len(l)+1][len(l)], there("spare", "room")) {
			t.Error("R2: Build wrote behind the list")
		}
	}
}

func TestBuildIsNewMemory(t *testing.T) {
	for _, l := range [][]api.Entry{shared(), {there("k", "v")}, {gone("k")}} {
		want, _ := plainBuild(l)
		handed := laid(l)
		first, _ := block.Build(handed...)
		second, _ := block.Build(handed...)
		spoil(first)
		for _, e := range handed {
			spoil(e.Key)
			spoil(e.Value)
		}
		if !bytes.Equal(second, want) {
			t.Error("R2: Build's answer shares memory with another, or with what was handed in")
		}
	}
}

// TestBuildOfOneText: Keys and Values that are parts of one text.
func TestBuildOfOneText(t *testing.T) {
	text := []byte("abcdef")
	l := []api.Entry{{Key: text[:2], Value: text}, {Key: text[:4], Value: text[1:]}, {Key: text[1:3], Value: text[:0]}, {Key: text[4:], Gone: true, Value: text}}
	builds(t, "parts of one text", l, api.OK)
	if string(text) != "abcdef" {
		t.Errorf("R2: Build changed what was handed in: %s", text)
	}
}

// texts are all Keys and Values of l.
func texts(l []api.Entry) [][]byte {
	var out [][]byte
	for _, e := range l {
		out = append(out, e.Key, e.Value)
	}
	return out
}

// TestAllIsNewMemory writes into each text of an answer, its spare room too: none of the others and nothing else is changed.
func TestAllIsNewMemory(t *testing.T) {
	want := shared()
	text := built(t, want...)
	for spoilt := range texts(want) {
		b := roomy(text)
		got, _ := block.All(b)
		other, _ := block.All(b)
		if !slices.EqualFunc(got, want, same) {
			t.Fatalf("P6.2: All: %v", got)
		}
		spoil(texts(got)[spoilt])
		untouched(t, "a write into All's answer", b, text)
		for i, s := range texts(got) {
			if i != spoilt && !bytes.Equal(s, texts(want)[i]) {
				t.Errorf("R2: texts %d and %d of one answer share memory", spoilt, i)
			}
		}
		spoil(b)
		if !slices.EqualFunc(other, want, same) {
			t.Error("R2: All's answer shares memory with another, or with what was handed in")
		}
	}
}

// TestAllSharesNoSpareRoom writes behind each text of an answer, as an append does.
func TestAllSharesNoSpareRoom(t *testing.T) {
	want := shared()
	got, _ := block.All(built(t, want...))
	for _, s := range texts(got) {
		_ = append(s, "written behind"...)
	}
	_ = append(got, there("written", "behind"))
	if !slices.EqualFunc(got, want, same) {
		t.Errorf("R2: the spare room of All's answer is another text's: %v", got)
	}
}

func TestSeekIsNewMemory(t *testing.T) {
	want := shared()
	text := built(t, want...)
	for i, e := range want {
		b, key := roomy(text), roomy(e.Key)
		got, _ := block.Seek(b, key)
		other, _ := block.Seek(b, key)
		spoil(got.Key)
		if !bytes.Equal(got.Value, e.Value) {
			t.Errorf("R2: Key and Value of Seek's answer %d share memory", i)
		}
		spoil(got.Value)
		untouched(t, "a write into Seek's answer", b, text)
		untouched(t, "a write into Seek's answer, the key", key, e.Key)
		spoil(b)
		spoil(key)
		if !same(other, e) {
			t.Errorf("R2: Seek's answer %d shares memory with another, or with what was handed in", i)
		}
	}
}

func TestRestartsIsNewMemory(t *testing.T) {
	b := built(t, many(20, 2)...)
	first, _ := block.Restarts(b)
	second, _ := block.Restarts(b)
	for i := range first {
		first[i] = -1
	}
	spoil(b)
	if !slices.Equal(second, starts(many(20, 2))) {
		t.Errorf("R2: Restarts' answer shares memory: %v", second)
	}
}
