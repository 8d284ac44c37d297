package mem_test

import (
	"bytes"
	"slices"
	"testing"

	"marigraph/api"
	"marigraph/mem"
)

// shared are entries whose Keys come from one another, so that their memory may be, too.
func shared() []api.Entry {
	return []api.Entry{there("", "v0"), there("k", "v1"), there("ka", "v2"), gone("kab"), there("kabc", ""), there("kabcd", long(100)), gone("kabce"), there("l", "v4"), there(long(300)+"z", "v5")}
}

// rising is l, as All must answer it.
func rising(l []api.Entry) []api.Entry { return plainPut(nil, l...) }

// handedIn is a copy of l with marked room behind each text and behind the list.
func handedIn(l []api.Entry) []api.Entry {
	out := make([]api.Entry, 0, len(l)+1)
	for _, e := range l {
		out = append(out, api.Entry{Key: roomy(e.Key), Value: roomy(e.Value), Gone: e.Gone})
	}
	out[:len(l)+1][len(l)] = there("spare", "room")
	return out
}

func TestPutLeavesWhatIsHandedIn(t *testing.T) {
	for _, l := range [][]api.Entry{nil, shared(), {goneWith("k", "not seen")}, {there("b", "1"), there("a", "2")}, {there("k", "1"), goneWith("k", "2"), there("k", "3")}, {there("", "v")}, ascending(30)} {
		for _, m := range []*mem.Mem{mem.New(), holding(shared()...), holding(l...)} {
			handed := handedIn(l)
			m.Put(handed...)
			spoilAll(m.All())
			m.Put(there("k", "over"), gone("b"), there("0", "ahead"))
			for i := range l {
				untouched(t, "Put, a Key", handed[i].Key, l[i].Key)
				untouched(t, "Put, a Value", handed[i].Value, l[i].Value)
				if handed[i].Gone != l[i].Gone {
					t.Errorf("R2: Put changed entry %d", i)
				}
			}
			if !same(handed[:len(l)+1][len(l)], there("spare", "room")) {
				t.Error("R2: Put wrote behind the list")
			}
		}
	}
}

// TestPutKeepsNothing turns what was handed in behind Put, where it is new and where it stands in the place of another.
func TestPutKeepsNothing(t *testing.T) {
	for _, l := range [][]api.Entry{shared(), {there("k", "v")}, {gone("k")}, ascending(100)} {
		for _, m := range []*mem.Mem{mem.New(), holding(l...), holding(turns("k")...)} {
			want := plainPut(m.All(), l...)
			handed := handedIn(l)
			m.Put(handed...)
			c := m.Copy()
			spoilAll(handed)
			answers(t, "a Mem whose entries were turned behind Put", m, want)
			answers(t, "a Copy of it", c, want)
		}
	}
}

// TestPutOfOneMemory puts entries whose texts are one another's, and turns one of them between two Puts.
func TestPutOfOneMemory(t *testing.T) {
	text := roomy([]byte("abcdef"))
	m := mem.New()
	m.Put(api.Entry{Key: text[:3], Value: text[:3]}, api.Entry{Key: text[:2], Value: text[1:]}, api.Entry{Key: text, Value: text}, api.Entry{Key: text[:1], Value: text, Gone: true})
	untouched(t, "Put of one memory", text, []byte("abcdef"))
	text[0] = 'x'
	m.Put(api.Entry{Key: text[:2], Value: text[:1]})
	spoil(text)
	answers(t, "entries of one memory", m, []api.Entry{gone("a"), there("ab", "bcdef"), there("abc", "abc"), there("abcdef", "abcdef"), there("xb", "x")})
}

// TestPutOfItsOwnAnswers puts what the Mem itself answered, and turns it then.
func TestPutOfItsOwnAnswers(t *testing.T) {
	want := rising(shared())
	m := holding(shared()...)
	for _, l := range [][]api.Entry{m.All(), m.Range([]byte("k"), []byte("l")), m.Copy().All()} {
		m.Put(l...)
		spoilAll(l)
		answers(t, "a Mem that was handed its own answer", m, want)
	}
	e, _ := m.Get([]byte("k"))
	m.Put(e)
	spoil(e.Key)
	spoil(e.Value)
	answers(t, "a Mem that was handed Get's answer", m, want)
}

// listsOf are the calls that answer lists, each of all entries of a Mem of shared.
func listsOf(m *mem.Mem) map[string]func() []api.Entry {
	return map[string]func() []api.Entry{
		"All":                 m.All,
		"Range without ends":  func() []api.Entry { return m.Range(nil, nil) },
		"Range with two ends": func() []api.Entry { return m.Range([]byte{}, []byte("m")) },
	}
}

// TestListsAreNewMemory writes into each text of an answer, its spare room too: none of the others is changed, nor is the Mem or a Copy of it.
func TestListsAreNewMemory(t *testing.T) {
	want := rising(shared())
	m := holding(shared()...)
	c := m.Copy()
	for what, list := range listsOf(m) {
		for spoilt := range texts(want) {
			got, other := list(), list()
			spoil(texts(got)[spoilt])
			for i, s := range texts(got) {
				if i != spoilt && !bytes.Equal(s, texts(want)[i]) {
					t.Errorf("R2: %s: texts %d and %d of one answer share memory", what, spoilt, i)
				}
			}
			if !slices.EqualFunc(other, want, same) {
				t.Errorf("R2: two answers of %s share memory", what)
			}
			answers(t, what+": a Mem whose answer was turned", m, want)
			answers(t, what+": a Copy of a Mem whose answer was turned", c, want)
		}
	}
}

// TestListsShareNoSpareRoom writes behind each text of an answer and behind the answer, as an append does, and over the answer itself.
func TestListsShareNoSpareRoom(t *testing.T) {
	want := rising(shared())
	m := holding(shared()...)
	for what, list := range listsOf(m) {
		got, other := list(), list()
		for _, s := range texts(got) {
			_ = append(s, "written behind"...)
		}
		_ = append(got, there("written", "behind"))
		if !slices.EqualFunc(got, want, same) {
			t.Errorf("R2: the spare room of %s's answer is another text's: %s", what, show(got))
		}
		spoilAll(got)
		if !slices.EqualFunc(other, want, same) {
			t.Errorf("R2: two answers of %s share memory", what)
		}
		answers(t, what+": a Mem whose answer was written over", m, want)
	}
}

// TestRangeOfAPart: an answer that is a part of the Mem has no room for what stands behind it there.
func TestRangeOfAPart(t *testing.T) {
	want := rising(shared())
	m := holding(shared()...)
	for _, ends := range [][2]string{{"", "k"}, {"k", "kab"}, {"ka", "kabc"}, {"x", ""}, {"l", "k"}, {"k", "k"}} {
		got := m.Range([]byte(ends[0]), []byte(ends[1]))
		_ = append(got, there("written", "behind"))
		spoilAll(got)
		answers(t, "a Mem of which a part was turned", m, want)
	}
}

// TestAnswersKeepNoEnds turns the ends behind Range, and the key behind Get.
func TestAnswersKeepNoEnds(t *testing.T) {
	want := rising(shared())
	m := holding(shared()...)
	from, to, key := roomy([]byte("k")), roomy([]byte("l")), roomy([]byte("kabcd"))
	got := m.Range(from, to)
	e, _ := m.Get(key)
	for _, s := range [][]byte{from, to, key} {
		spoil(s)
	}
	if !slices.EqualFunc(got, plainRange(want, []byte("k"), []byte("l")), same) {
		t.Error("R2: Range's answer shares memory with its ends")
	}
	if !same(e, there("kabcd", long(100))) {
		t.Error("R2: Get's answer shares memory with its key")
	}
	answers(t, "a Mem whose ends were turned", m, want)
}

func TestGetIsNewMemory(t *testing.T) {
	want := rising(shared())
	m := holding(shared()...)
	c := m.Copy()
	for i, e := range want {
		key := roomy(e.Key)
		got, _ := m.Get(key)
		other, _ := m.Get(key)
		spoil(got.Key)
		if !bytes.Equal(got.Value, e.Value) {
			t.Errorf("R2: Key and Value of Get's answer %d share memory", i)
		}
		spoil(got.Value)
		untouched(t, "a write into Get's answer", key, e.Key)
		if !same(other, e) {
			t.Errorf("R2: Get's answer %d shares memory with another", i)
		}
		answers(t, "a Mem whose Get was turned", m, want)
		answers(t, "a Copy of a Mem whose Get was turned", c, want)
	}
}

// TestCopysAnswersAreNewMemory turns what a Copy answers: neither it nor the Mem that it was made of is changed.
func TestCopysAnswersAreNewMemory(t *testing.T) {
	want := rising(shared())
	m := holding(shared()...)
	c := m.Copy()
	for _, l := range [][]api.Entry{c.All(), c.Range(nil, nil), c.Copy().All()} {
		spoilAll(l)
		answers(t, "a Mem whose Copy's answer was turned", m, want)
		answers(t, "a Copy whose answer was turned", c, want)
	}
	for _, e := range want {
		got, _ := c.Get(e.Key)
		spoil(got.Key)
		spoil(got.Value)
	}
	answers(t, "a Mem whose Copy's Get was turned", m, want)
	answers(t, "a Copy whose Get was turned", c, want)
}

// TestAnswersStay: what was answered does not turn with the Mem.
func TestAnswersStay(t *testing.T) {
	want := rising(shared())
	m := holding(shared()...)
	all, part := m.All(), m.Range(nil, nil)
	e, _ := m.Get([]byte("kabcd"))
	for _, x := range want {
		m.Put(there(string(x.Key), "turned"), there(string(x.Key)+"\x00", "new"))
	}
	if !slices.EqualFunc(all, want, same) || !slices.EqualFunc(part, want, same) || !same(e, there("kabcd", long(100))) {
		t.Error("R2: an answer turned with the Mem")
	}
}
