package table_test

import (
	"bytes"
	"fmt"
	"math/rand"
	"slices"
	"testing"

	"marigraph/api"
	"marigraph/block"
	"marigraph/table"
)

func there(key, value string) api.Entry {
	return api.Entry{Key: []byte(key), Value: []byte(value)}
}

func gone(key string) api.Entry {
	return api.Entry{Key: []byte(key), Gone: true}
}

// long is a text of n bytes.
func long(n int) string { return string(bytes.Repeat([]byte("k"), n)) }

// many are n entries, each third of them Gone.
func many(n int) []api.Entry {
	l := make([]api.Entry, n)
	for i := range l {
		l[i] = there(fmt.Sprintf("%05d", i), fmt.Sprint(i*i))
		if i%3 == 2 {
			l[i] = gone(fmt.Sprintf("%05d", i))
		}
	}
	return l
}

// back is what a table of l must tell: the Values of those that are Gone do not come back.
func back(l []api.Entry) []api.Entry {
	var out []api.Entry
	for _, e := range l {
		if e.Gone {
			e.Value = nil
		}
		out = append(out, e)
	}
	return out
}

func same(a, b api.Entry) bool {
	return bytes.Equal(a.Key, b.Key) && bytes.Equal(a.Value, b.Value) && a.Gone == b.Gone
}

func isZero(e api.Entry) bool { return len(e.Key) == 0 && len(e.Value) == 0 && !e.Gone }

// blockOf is a block of l, which may have as many entries as any block.
func blockOf(l ...api.Entry) string {
	b, why := block.Build(l...)
	if why != api.OK {
		panic(why)
	}
	return string(b)
}

// blocksOf are the blocks of a table of l.
func blocksOf(l []api.Entry) []string {
	var out []string
	for len(l) > 0 {
		n := min(8, len(l))
		out = append(out, blockOf(l[:n]...))
		l = l[n:]
	}
	return out
}

// parts are what a table is laid down from; each may be what no Build gives.
type parts struct {
	blocks  []string
	count   int
	lengths []int
	begin   int
	mark    string
}

// right are the parts of a table of these blocks, whatever they are.
func right(blocks ...string) parts {
	p := parts{blocks: blocks, count: len(blocks), mark: "mari"}
	for _, s := range blocks {
		p.lengths = append(p.lengths, len(s))
		p.begin += len(s)
	}
	return p
}

// laid are the bytes, by the document's words.
func (p parts) laid() []byte {
	var b []byte
	for _, s := range p.blocks {
		b = append(b, s...)
	}
	b = append(b, byte(p.count>>8), byte(p.count))
	for _, n := range append(slices.Clone(p.lengths), p.begin) {
		b = append(b, byte(n>>24), byte(n>>16), byte(n>>8), byte(n))
	}
	return append(b, p.mark...)
}

// plainOpen reads, without any table call, the entries of bytes that Build gave: what can be read of b is laid down anew, and must be b.
func plainOpen(b []byte) ([]api.Entry, bool) {
	number := func(at, size int) int {
		n := 0
		for _, c := range b[min(at, len(b)):min(at+size, len(b))] {
			n = n*256 + int(c)
		}
		return n
	}
	begin := number(max(0, len(b)-8), 4)
	var l []api.Entry
	at := 0
	for i := range number(begin, 2) {
		end := at + number(begin+2+4*i, 4)
		if end > len(b) {
			return nil, false
		}
		got, why := block.All(b[at:end])
		if why != api.OK || len(got) > 8 {
			return nil, false
		}
		l, at = append(l, got...), end
	}
	rises := slices.IsSortedFunc(l, func(a, b api.Entry) int { return bytes.Compare(a.Key, b.Key) })
	twice := len(slices.CompactFunc(slices.Clone(l), func(a, b api.Entry) bool { return bytes.Equal(a.Key, b.Key) })) < len(l)
	ok := len(l) >= 1 && len(l) <= 65535 && rises && !twice && bytes.Equal(right(blocksOf(l)...).laid(), b)
	return l, ok
}

// plainRange are those of l from from on and ahead of to.
func plainRange(l []api.Entry, from, to []byte) []api.Entry {
	var out []api.Entry
	for _, e := range l {
		if bytes.Compare(e.Key, from) >= 0 && (len(to) == 0 || bytes.Compare(e.Key, to) < 0) {
			out = append(out, e)
		}
	}
	return out
}

// behind fills the spare room of what is handed in, so that a write into it shows.
const behind = 0x5a

// roomy lays text down with spare room behind it.
func roomy(text []byte) []byte {
	whole := bytes.Repeat([]byte{behind}, len(text)+24)
	copy(whole, text)
	return whole[:len(text)]
}

// untouched fails unless b is still text, with its spare room as it was.
func untouched(t *testing.T, what string, b, text []byte) {
	t.Helper()
	if !bytes.Equal(b[:cap(b)], roomy(text)[:cap(b)]) {
		t.Errorf("R2: %s: what was handed in, or its spare room, has changed", what)
	}
}

// spoil turns all bytes of b and of its spare room.
func spoil(b []byte) {
	b = b[:cap(b)]
	for i := range b {
		b[i] ^= 0xff
	}
}

// builds fails unless Build of l is a table of it, or is refused as why says.
func builds(t *testing.T, what string, l []api.Entry, why api.Errno) []byte {
	t.Helper()
	got, e := table.Build(l...)
	var want []byte
	if why == api.OK {
		want = right(blocksOf(l)...).laid()
	}
	if !bytes.Equal(got, want) || e != why {
		t.Errorf("P7.1: Build of %s: %d bytes, %v; must be %d, %v", what, len(got), e, len(want), why)
	}
	return got
}

// opens answers the table that b is.
func opens(t *testing.T, what string, b []byte) *table.Table {
	t.Helper()
	x, why := table.Open(b)
	if x == nil || why != api.OK {
		t.Fatalf("P7.2: Open of %s (%d bytes): %v", what, len(b), why)
	}
	return x
}

// tells fails unless b is a table that answers want.
func tells(t *testing.T, what string, b []byte, want []api.Entry) {
	t.Helper()
	handed := roomy(b)
	x := opens(t, what, handed)
	untouched(t, "Open of "+what, handed, b)
	answers(t, what, x, want)
}

// answers fails unless x answers want, each of its calls.
func answers(t *testing.T, what string, x *table.Table, want []api.Entry) {
	t.Helper()
	if l := x.All(); !slices.EqualFunc(l, want, same) {
		t.Errorf("P7.2: All of %s: %d entries; must be %d", what, len(l), len(want))
	}
	if l := x.Range(nil, nil); !slices.EqualFunc(l, want, same) {
		t.Errorf("P7.2: Range(nil, nil) of %s: %d entries; must be %d", what, len(l), len(want))
	}
	if x.Len() != len(want) || x.Blocks() != (len(want)+7)/8 {
		t.Errorf("P7.2: Len and Blocks of %s: %d, %d; must be of %d entries", what, x.Len(), x.Blocks(), len(want))
	}
	if first, last := x.Bounds(); !bytes.Equal(first, want[0].Key) || !bytes.Equal(last, want[len(want)-1].Key) {
		t.Errorf("P7.2: Bounds of %s: %q, %q", what, first, last)
	}
	for _, e := range want {
		if got, ok := x.Get(e.Key); !same(got, e) || !ok {
			t.Errorf("P7.3: Get(%q) of %s: %v, %v", e.Key, what, got, ok)
		}
	}
}

// refuses fails unless Open answers no table of b, and leaves it alone.
func refuses(t *testing.T, what string, b []byte) {
	t.Helper()
	handed := roomy(b)
	if x, why := table.Open(handed); x != nil || why != api.ErrForm {
		t.Errorf("P7.2: Open of %s (%d bytes): %v", what, len(b), why)
	}
	untouched(t, "Open of "+what, handed, b)
}

// asPlain fails unless Open answers of b what plainOpen says.
func asPlain(t *testing.T, what string, b []byte) {
	t.Helper()
	if l, ok := plainOpen(b); ok {
		tells(t, what, b, l)
	} else {
		refuses(t, what, b)
	}
}

// thrown are entries with rising Keys that often share a beginning.
func thrown(r *rand.Rand, most int) []api.Entry {
	l := make([]api.Entry, 1+r.Intn(most))
	for i := range l {
		key := make([]byte, 1+r.Intn(6))
		for j := range key {
			key[j] = "\x00\x01ab\xff"[r.Intn(5)]
		}
		l[i] = api.Entry{Key: key, Value: []byte(long(r.Intn(12))), Gone: r.Intn(4) == 0}
	}
	slices.SortFunc(l, func(a, b api.Entry) int { return bytes.Compare(a.Key, b.Key) })
	return slices.CompactFunc(l, func(a, b api.Entry) bool { return bytes.Equal(a.Key, b.Key) })
}
