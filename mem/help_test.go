package mem_test

import (
	"bytes"
	"fmt"
	"math/rand"
	"slices"
	"testing"

	"marigraph/api"
	"marigraph/mem"
)

func there(key, value string) api.Entry {
	return api.Entry{Key: []byte(key), Value: []byte(value)}
}

func gone(key string) api.Entry {
	return api.Entry{Key: []byte(key), Gone: true}
}

// goneWith is a Gone one that is handed in with a Value.
func goneWith(key, value string) api.Entry {
	return api.Entry{Key: []byte(key), Value: []byte(value), Gone: true}
}

// long is a text of n bytes.
func long(n int) string { return string(bytes.Repeat([]byte("k"), n)) }

// ascending are n entries with Keys that are far enough from each other for others to stand between, each third Gone.
func ascending(n int) []api.Entry {
	l := make([]api.Entry, n)
	for i := range l {
		key := fmt.Sprintf("%06d5", i)
		l[i] = there(key, fmt.Sprint(i*i))
		if i%3 == 2 {
			l[i] = gone(key)
		}
	}
	return l
}

func same(a, b api.Entry) bool {
	return bytes.Equal(a.Key, b.Key) && bytes.Equal(a.Value, b.Value) && a.Gone == b.Gone
}

func isZero(e api.Entry) bool { return len(e.Key) == 0 && len(e.Value) == 0 && !e.Gone }

// plainPut is what l must be behind a Put of more, each of which is searched for from one end to the other.
func plainPut(l []api.Entry, more ...api.Entry) []api.Entry {
	out := slices.Clone(l)
	for _, e := range more {
		if e.Gone {
			e.Value = nil
		}
		out = slices.DeleteFunc(out, func(x api.Entry) bool { return bytes.Equal(x.Key, e.Key) })
		behind := slices.IndexFunc(out, func(x api.Entry) bool { return bytes.Compare(x.Key, e.Key) > 0 })
		if behind < 0 {
			behind = len(out)
		}
		out = slices.Insert(out, behind, e)
	}
	return out
}

// plainGet is the entry of l that has the Key.
func plainGet(l []api.Entry, key []byte) (api.Entry, bool) {
	for _, e := range l {
		if bytes.Equal(e.Key, key) {
			return e, true
		}
	}
	return api.Entry{}, false
}

// plainRange are those of l from from on and ahead of to.
func plainRange(l []api.Entry, from, to []byte) []api.Entry {
	var out []api.Entry
	for _, e := range l {
		if bytes.Compare(e.Key, from) >= 0 && (len(to) == 0 || bytes.Compare(e.Key, to) < 0) {
			out = append(out, e)
		}
	}
	return out
}

// plainBytes are all Keys' and Values' bytes of l.
func plainBytes(l []api.Entry) int {
	return len(bytes.Join(texts(l), nil))
}

// texts are all Keys and Values of l.
func texts(l []api.Entry) [][]byte {
	var out [][]byte
	for _, e := range l {
		out = append(out, e.Key, e.Value)
	}
	return out
}

// show is l in short, for a test that fails.
func show(l []api.Entry) string {
	out := fmt.Sprintf("%d:", len(l))
	for i, e := range l {
		if i == 12 {
			return out + " .."
		}
		out += fmt.Sprintf(" %.20q=%.20q", e.Key, e.Value)
		if e.Gone {
			out += "!"
		}
	}
	return out
}

// holding is a Mem into which l was put, in one call.
func holding(l ...api.Entry) *mem.Mem {
	m := mem.New()
	m.Put(l...)
	return m
}

// answers fails unless m answers want, each of its calls.
func answers(t *testing.T, what string, m *mem.Mem, want []api.Entry) {
	t.Helper()
	if l := m.All(); !slices.EqualFunc(l, want, same) {
		t.Errorf("P8.1: All of %s: %s; must be %s", what, show(l), show(want))
	}
	if l := m.Range(nil, nil); !slices.EqualFunc(l, want, same) {
		t.Errorf("P8.1: Range(nil, nil) of %s: %s; must be %s", what, show(l), show(want))
	}
	if m.Len() != len(want) {
		t.Errorf("P8.1: Len of %s: %d; must be %d", what, m.Len(), len(want))
	}
	if m.Bytes() != plainBytes(want) {
		t.Errorf("P8.1: Bytes of %s: %d; must be %d", what, m.Bytes(), plainBytes(want))
	}
	for _, e := range want {
		if got, ok := m.Get(e.Key); !same(got, e) || !ok {
			t.Errorf("P8.1: Get(%.20q) of %s: %v; must be %s", e.Key, what, ok, show([]api.Entry{e}))
		}
	}
}

// behind fills the spare room of what is handed in, so that a write into it shows.
const behind = 0x5a

// roomy lays text down with spare room behind it.
func roomy(text []byte) []byte {
	whole := bytes.Repeat([]byte{behind}, len(text)+24)
	copy(whole, text)
	return whole[:len(text)]
}

// untouched fails unless b is still text, with its spare room as it was.
func untouched(t *testing.T, what string, b, text []byte) {
	t.Helper()
	if !bytes.Equal(b[:cap(b)], roomy(text)[:cap(b)]) {
		t.Errorf("R2: %s: what was handed in, or its spare room, has changed", what)
	}
}

// spoil turns all bytes of b and of its spare room.
func spoil(b []byte) {
	b = b[:cap(b)]
	for i := range b {
		b[i] ^= 0xff
	}
}

// spoilAll turns all texts of l, and then the entries, those in its spare room too.
func spoilAll(l []api.Entry) {
	for _, s := range texts(l) {
		spoil(s)
	}
	l = l[:cap(l)]
	for i := range l {
		l[i] = there("written", "over")
	}
}

// thrownKey is a short Key of few bytes, so that many are the same and many begin with one another; a tenth has none.
func thrownKey(r *rand.Rand) []byte {
	key := make([]byte, r.Intn(10)/2)
	for i := range key {
		key[i] = "\x00\x01ab\xff"[r.Intn(5)]
	}
	return key
}

// thrown are up to most entries with thrown Keys, not in order.
func thrown(r *rand.Rand, most int) []api.Entry {
	l := make([]api.Entry, r.Intn(most+1))
	for i := range l {
		l[i] = api.Entry{Key: thrownKey(r), Value: []byte(long(r.Intn(12))), Gone: r.Intn(4) == 0}
	}
	return l
}
