package block_test

import (
	"bytes"
	"fmt"
	"math/rand"
	"slices"
	"testing"

	"marigraph/api"
	"marigraph/block"
)

func there(key, value string) api.Entry {
	return api.Entry{Key: []byte(key), Value: []byte(value)}
}

func gone(key string) api.Entry {
	return api.Entry{Key: []byte(key), Gone: true}
}

// filled is a text of n bytes that are not all alike, and the same ones for each n.
func filled(n int) []byte {
	b := make([]byte, n)
	for i := range b {
		b[i] = byte(i*7 + i>>8)
	}
	return b
}

// many are n entries whose Values are of so many bytes.
func many(n, value int) []api.Entry {
	l := make([]api.Entry, n)
	for i := range l {
		l[i] = api.Entry{Key: fmt.Appendf(nil, "%03d", i), Value: filled(value)}
	}
	return l
}

// back is what All must answer of a block of l: the Values of those that are Gone do not come back.
func back(l []api.Entry) []api.Entry {
	var out []api.Entry
	for _, e := range l {
		if e.Gone {
			e.Value = nil
		}
		out = append(out, e)
	}
	return out
}

func same(a, b api.Entry) bool {
	return bytes.Equal(a.Key, b.Key) && bytes.Equal(a.Value, b.Value) && a.Gone == b.Gone
}

// plainBuild lays down, by the document's words, entries that may be packed and of which none begins too late; and where each fourth one begins.
func plainBuild(l []api.Entry) ([]byte, []int) {
	var b []byte
	var starts []int
	for i, e := range l {
		shared := 0
		if i%4 == 0 {
			starts = append(starts, len(b))
		} else {
			for shared < len(e.Key) && shared < len(l[i-1].Key) && e.Key[shared] == l[i-1].Key[shared] {
				shared++
			}
		}
		b = append(b, byte(shared), byte(len(e.Key)-shared))
		b = append(b, e.Key[shared:]...)
		if e.Gone {
			b = append(b, 0)
		} else {
			b = append(b, 1, byte(len(e.Value)/256), byte(len(e.Value)%256))
			b = append(b, e.Value...)
		}
	}
	for _, at := range starts {
		b = append(b, byte(at/256), byte(at%256))
	}
	return append(b, byte(len(starts))), starts
}

// starts are where each fourth one of l begins.
func starts(l []api.Entry) []int {
	_, at := plainBuild(l)
	return at
}

// plainEntry reads the first entry of b (whole: one that shares nothing) behind one of the Key ahead; nil, if there is none.
func plainEntry(b, ahead []byte, whole bool) (e *api.Entry, rest []byte) {
	if len(b) < 2 || len(b) < 2+int(b[1]) {
		return nil, nil
	}
	shared, more := int(b[0]), b[2:2+int(b[1])]
	if shared > len(ahead) || whole && shared > 0 || shared+len(more) < 1 || shared+len(more) > 255 {
		return nil, nil
	}
	key := append(bytes.Clone(ahead[:shared]), more...)
	if !whole && shared < len(key) && shared < len(ahead) && key[shared] == ahead[shared] {
		return nil, nil
	}
	if bytes.Compare(ahead, key) >= 0 {
		return nil, nil
	}
	b = b[2+len(more):]
	if len(b) >= 1 && b[0] == 0 {
		return &api.Entry{Key: key, Gone: true}, b[1:]
	}
	if len(b) < 3 || b[0] != 1 {
		return nil, nil
	}
	size := int(b[1])*256 + int(b[2])
	if size > 4095 || len(b) < 3+size {
		return nil, nil
	}
	return &api.Entry{Key: key, Value: b[3 : 3+size]}, b[3+size:]
}

// plainAll reads a block with a rule of its own for each thing that can be wrong.
func plainAll(b []byte) (l []api.Entry, starts []int, ok bool) {
	if len(b) == 0 {
		return nil, nil, false
	}
	end := len(b) - 1 - 2*int(b[len(b)-1])
	if end < 0 {
		return nil, nil, false
	}
	var told []int
	for i := end; i < len(b)-1; i += 2 {
		told = append(told, int(b[i])*256+int(b[i+1]))
	}
	var ahead []byte
	for rest := b[:end]; len(rest) > 0; {
		whole := len(l)%4 == 0
		if whole {
			starts = append(starts, end-len(rest))
		}
		e, behind := plainEntry(rest, ahead, whole)
		if e == nil {
			return nil, nil, false
		}
		l, ahead, rest = append(l, *e), e.Key, behind
	}
	if len(l) < 1 || len(l) > 255 || !slices.Equal(told, starts) {
		return nil, nil, false
	}
	return l, starts, true
}

// mark fills the spare room of what is handed in, so that a write into it shows.
const mark = 0x5a

// roomy lays text down with spare room behind it.
func roomy(text []byte) []byte {
	whole := bytes.Repeat([]byte{mark}, len(text)+24)
	copy(whole, text)
	return whole[:len(text)]
}

// untouched fails unless b is still text, with marks in its spare room.
func untouched(t *testing.T, what string, b, text []byte) {
	t.Helper()
	if !bytes.Equal(b, text) {
		t.Errorf("R2: %s: what was handed in has changed", what)
	}
	for _, c := range b[len(b):cap(b)] {
		if c != mark {
			t.Fatalf("R2: %s: the spare room was written", what)
		}
	}
}

// spoil turns all bytes of b and of its spare room.
func spoil(b []byte) {
	b = b[:cap(b)]
	for i := range b {
		b[i] ^= 0xff
	}
}

// builds fails unless Build of l is a block of it, or is refused as why says.
func builds(t *testing.T, what string, l []api.Entry, why api.Errno) []byte {
	t.Helper()
	got, e := block.Build(l...)
	var want []byte
	if why == api.OK {
		want, _ = plainBuild(l)
	}
	if !bytes.Equal(got, want) || e != why {
		t.Errorf("P6.1: Build of %s: %d bytes, %v; must be %d, %v", what, len(got), e, len(want), why)
	}
	return got
}

// tells fails unless All, Restarts and Seek answer what must be of the block b, and leave it alone.
func tells(t *testing.T, what string, b []byte, want []api.Entry, starts []int) {
	t.Helper()
	handed := roomy(b)
	if l, why := block.All(handed); !slices.EqualFunc(l, want, same) || why != api.OK {
		t.Errorf("P6.2: All of %s: %d entries, %v; must be %d", what, len(l), why, len(want))
	}
	if at, ok := block.Restarts(handed); !slices.Equal(at, starts) || !ok {
		t.Errorf("P6.2: Restarts of %s: %v, %v; must be %v", what, at, ok, starts)
	}
	for _, e := range want {
		if got, ok := block.Seek(handed, e.Key); !same(got, e) || !ok {
			t.Errorf("P6.2: Seek of %q in %s: %v, %v", e.Key, what, got, ok)
		}
	}
	untouched(t, what, handed, b)
}

// refuses fails unless All, Restarts and Seek answer nothing of b, and leave it alone.
func refuses(t *testing.T, what string, b []byte) {
	t.Helper()
	handed := roomy(b)
	if l, why := block.All(handed); len(l) > 0 || why != api.ErrForm {
		t.Errorf("P6.2: All of %s (%d bytes): %d entries, %v", what, len(b), len(l), why)
	}
	if at, ok := block.Restarts(handed); len(at) > 0 || ok {
		t.Errorf("P6.2: Restarts of %s (%d bytes): %v, %v", what, len(b), at, ok)
	}
	for _, key := range [][]byte{nil, {}, {0}, []byte("a"), []byte("k"), {0xff}} {
		if e, ok := block.Seek(handed, key); len(e.Key) > 0 || len(e.Value) > 0 || e.Gone || ok {
			t.Errorf("P6.2: Seek(%q) of %s (%d bytes): %v, %v", key, what, len(b), e, ok)
		}
	}
	untouched(t, what, handed, b)
}

// asPlain fails unless the calls answer of b what plainAll says.
func asPlain(t *testing.T, what string, b []byte) {
	t.Helper()
	if l, starts, ok := plainAll(b); ok {
		tells(t, what, b, l, starts)
	} else {
		refuses(t, what, b)
	}
}

// thrown are entries with rising Keys that often share a beginning.
func thrown(r *rand.Rand, most int) []api.Entry {
	l := make([]api.Entry, 1+r.Intn(most))
	for i := range l {
		key := make([]byte, 1+r.Intn(6))
		for j := range key {
			key[j] = "\x00\x01ab\xff"[r.Intn(5)]
		}
		l[i] = api.Entry{Key: key, Value: filled(r.Intn(12)), Gone: r.Intn(4) == 0}
	}
	slices.SortFunc(l, func(a, b api.Entry) int { return bytes.Compare(a.Key, b.Key) })
	return slices.CompactFunc(l, func(a, b api.Entry) bool { return bytes.Equal(a.Key, b.Key) })
}
