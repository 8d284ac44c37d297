package wal_test

import (
	"bytes"
	"testing"

	"marigraph/api"
	"marigraph/wal"
)

// roomy is a copy of l whose texts and list have marked room behind them.
func roomy(l []api.Entry) []api.Entry {
	lay := func(b []byte) []byte {
		out := bytes.Repeat([]byte("#"), len(b)+16)
		copy(out, b)
		return out[:len(b)]
	}
	out := make([]api.Entry, 0, len(l)+2)
	for _, e := range l {
		out = append(out, api.Entry{Key: lay(e.Key), Value: lay(e.Value), Gone: e.Gone})
	}
	copy(out[len(l):len(l)+2], []api.Entry{there("spare", "room"), gone("spare")})
	return out
}

// untouched fails unless handed is what roomy made of l.
func untouched(t *testing.T, what string, handed, l []api.Entry) {
	t.Helper()
	was := roomy(l)
	if !sameEntries(handed[:len(l)+2], was[:len(l)+2]) {
		t.Errorf("R2: %s: what was handed in has changed", what)
	}
	for i := range l {
		for _, pair := range [][2][]byte{{handed[i].Key, was[i].Key}, {handed[i].Value, was[i].Value}} {
			if !bytes.Equal(pair[0][:cap(pair[0])], pair[1][:cap(pair[1])]) {
				t.Errorf("R2: %s: the spare room of what was handed in was written", what)
			}
		}
	}
}

func fill(b []byte, with byte) {
	b = b[:cap(b)]
	for i := range b {
		b[i] = with
	}
}

// texts are all keys and values of the batches.
func texts(batches [][]api.Entry) [][]byte {
	var out [][]byte
	for _, l := range batches {
		for _, e := range l {
			out = append(out, e.Key, e.Value)
		}
	}
	return out
}

func TestAddKeepsNothing(t *testing.T) {
	d := fresh(t, room)
	l := opens(t, "R2", d, "w", nil)
	for _, batch := range some() {
		handed := roomy(batch)
		if why := l.Add(handed...); why != api.OK {
			t.Errorf("P5.2: Add: %v", why)
		}
		untouched(t, "Add", handed, batch)
		for _, b := range texts([][]api.Entry{handed}) {
			fill(b, '!')
		}
		clear(handed[:cap(handed)])
	}
	opens(t, "R2: behind Add what was handed in is changed", d, "w", some())
	for _, batch := range [][]api.Entry{{there("k", "v"), there("", "v")}, {sized(api.MaxKey+1, 1, true)}, {sized(1, api.MaxValue+1, false)}, times(api.MaxOps+1, there("k", "v"))} {
		handed := roomy(batch)
		l.Add(handed...)
		untouched(t, "a refused Add", handed, batch)
	}
	d.Grow(d.Used())
	handed := roomy(some()[2])
	l.Add(handed...)
	untouched(t, "Add without room", handed, some()[2])
	powerless(d)
	l.Add(handed...)
	untouched(t, "Add without power", handed, some()[2])
}

// TestOpenAnswersNewMemory: what is answered may be written over, spare room too, and neither disk nor log nor another answer sees it.
func TestOpenAnswersNewMemory(t *testing.T) {
	d := holding(t, append(row(some()), 0, 0), 9)
	l, got, _ := wal.Open(d, "w")
	_, again, _ := wal.Open(d, "w")
	before := state(d)
	for _, b := range texts(got) {
		fill(b, '!')
	}
	for _, batch := range got {
		clear(batch[:cap(batch)])
	}
	clear(got[:cap(got)])
	if !same(again, some()) || state(d) != before || l.Count() != len(some()) {
		t.Error("R2: what Open answered is kept")
	}
	l.Add(there("k", "v"))
	opens(t, "R2: behind Open what it answered is changed", d, "w", append(some(), []api.Entry{there("k", "v")}))
	if !same(again, some()) {
		t.Error("R2: what Open answered is changed by Add")
	}
}

// TestOpenSharesNothing: each list of one answer is filled, spare room too, with a number of its own, and must still hold it when all are.
func TestOpenSharesNothing(t *testing.T) {
	_, got, _ := wal.Open(holding(t, row(append(some(), some()...)), 0), "w")
	all := texts(got)
	for i, b := range all {
		fill(b, byte(i))
	}
	for i, b := range all {
		if !bytes.Equal(b[:cap(b)], bytes.Repeat([]byte{byte(i)}, cap(b))) {
			t.Errorf("R2: text %d of the answer shares memory with another", i)
		}
	}
	for i, batch := range got {
		for j := range batch[:cap(batch)] {
			batch[:cap(batch)][j] = there("batch", string(rune('a'+i)))
		}
	}
	for i, batch := range got {
		for _, e := range batch[:cap(batch)] {
			if string(e.Value) != string(rune('a'+i)) {
				t.Errorf("R2: batch %d of the answer shares memory with another", i)
			}
		}
	}
}

// TestSameAnswers: nil and empty lists mean the same.
func TestSameAnswers(t *testing.T) {
	one, other := fresh(t, 999), fresh(t, 999)
	l, m := opens(t, "R4", one, "w", nil), opens(t, "R4", other, "w", nil)
	l.Add()
	m.Add([]api.Entry{}...)
	l.Add(api.Entry{Key: []byte("k")}, api.Entry{Key: []byte("z"), Gone: true})
	m.Add(api.Entry{Key: []byte("k"), Value: []byte{}}, api.Entry{Key: []byte("z"), Value: []byte{}, Gone: true})
	if state(one) != state(other) || l.Count() != m.Count() {
		t.Errorf("R4: %s, %s", state(one), state(other))
	}
}
