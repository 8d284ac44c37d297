package table_test

import (
	"bytes"
	"fmt"
	"math/rand"
	"slices"
	"testing"

	"marigraph/api"
	"marigraph/table"
)

func TestRunsOfTheDocument(t *testing.T) {
	x := opens(t, "nine entries", built(t, many(9)...))
	if x.Blocks() != 2 {
		t.Errorf("P7.2: nine entries: %d blocks", x.Blocks())
	}
	if !slices.EqualFunc(x.Range(nil, nil), x.All(), same) || len(x.All()) != 9 {
		t.Error("P7.2: Range(nil, nil) is not All")
	}
}

func TestOfEachSize(t *testing.T) {
	for n, blocks := range map[int]int{1: 1, 2: 1, 7: 1, 8: 1, 9: 2, 15: 2, 16: 2, 17: 3, 64: 8, 65: 9, 1000: 125, 65535: 8192} {
		l := many(n)
		x := opens(t, fmt.Sprintf("%d entries", n), built(t, l...))
		if x.Len() != n || x.Blocks() != blocks {
			t.Errorf("P7.2: %d entries: Len %d, Blocks %d", n, x.Len(), x.Blocks())
		}
		if first, last := x.Bounds(); string(first) != "00000" || string(last) != fmt.Sprintf("%05d", n-1) {
			t.Errorf("P7.2: %d entries: Bounds %q, %q", n, first, last)
		}
		answers(t, fmt.Sprintf("%d entries", n), x, l)
	}
	x := opens(t, "one entry", built(t, gone("only")))
	if first, last := x.Bounds(); string(first) != "only" || string(last) != "only" {
		t.Errorf("P7.2: Bounds of one entry: %q, %q", first, last)
	}
}

// between are Keys around those of l: each of them, just behind it, ahead of it, shorter and longer ones, and such as stand ahead of all or behind all.
func between(l []api.Entry) [][]byte {
	out := [][]byte{nil, {}, {0}, {0xff}, bytes.Repeat([]byte{0xff}, 300), bytes.Repeat([]byte{'1'}, 300)}
	for _, e := range l {
		lower := bytes.Clone(e.Key)
		lower[len(lower)-1]--
		higher := bytes.Clone(e.Key)
		higher[len(higher)-1]++
		out = append(out, e.Key, append(bytes.Clone(e.Key), 0), append(lower, 0xff), higher, e.Key[:len(e.Key)-1])
	}
	return out
}

// ascending are n entries with Keys that are far enough from each other for others to stand between, each third Gone.
func ascending(n int) []api.Entry {
	l := many(n)
	for i := range l {
		l[i].Key = fmt.Appendf(nil, "%03d5", i)
	}
	return l
}

func TestGet(t *testing.T) {
	for n := 1; n <= 26; n++ {
		l := ascending(n)
		x := opens(t, fmt.Sprintf("%d entries", n), built(t, l...))
		for _, key := range between(l) {
			want := slices.IndexFunc(l, func(e api.Entry) bool { return bytes.Equal(e.Key, key) })
			handed := roomy(key)
			e, ok := x.Get(handed)
			if ok != (want >= 0) || ok && !same(e, l[want]) || !ok && !isZero(e) {
				t.Errorf("P7.2: Get(%q) of %d entries: %v, %v; must be entry %d", key, n, e, ok, want)
			}
			untouched(t, "Get's key", handed, key)
		}
		for _, key := range [][]byte{nil, {}, roomy(nil)} {
			if e, ok := x.Get(key); !isZero(e) || ok {
				t.Errorf("P7.2: Get of no bytes: %v, %v", e, ok)
			}
		}
	}
}

// TestGetOfGone: a Gone one is there, as Gone, and has no Value.
func TestGetOfGone(t *testing.T) {
	l := many(20)
	for i := range l {
		l[i].Gone, l[i].Value = true, []byte("not seen")
	}
	x := opens(t, "Gone ones", built(t, l...))
	for _, e := range l {
		if got, ok := x.Get(e.Key); !bytes.Equal(got.Key, e.Key) || len(got.Value) > 0 || !got.Gone || !ok {
			t.Errorf("P7.2: Get of a Gone one: %v, %v", got, ok)
		}
	}
}

// ranges fails unless Range of these ends answers what of l lies between.
func ranges(t *testing.T, x *table.Table, l []api.Entry, from, to []byte) {
	t.Helper()
	a, b := roomy(from), roomy(to)
	want := plainRange(l, from, to)
	if got := x.Range(a, b); !slices.EqualFunc(got, want, same) {
		t.Fatalf("P7.2: Range(%q, %q) of %d entries: %d; must be %d", from, to, len(l), len(got), len(want))
	}
	untouched(t, "Range's from", a, from)
	untouched(t, "Range's to", b, to)
}

// TestRange goes through each pair of ends of tables of one block and of some.
func TestRange(t *testing.T) {
	for _, n := range []int{1, 2, 7, 8, 9, 16, 17, 20} {
		l := ascending(n)
		x := opens(t, fmt.Sprintf("%d entries", n), built(t, l...))
		for _, from := range between(l) {
			for _, to := range between(l) {
				ranges(t, x, l, from, to)
			}
		}
	}
}

func TestRangeByHand(t *testing.T) {
	l := ascending(20)
	x := opens(t, "20 entries", built(t, l...))
	for _, c := range []struct {
		from, to   string
		begin, end int
	}{
		{"", "", 0, 20}, {"", "0005", 0, 0}, {"", "0006", 0, 1}, {"0005", "", 0, 20}, {"0006", "", 1, 20}, {"0195", "", 19, 20}, {"0196", "", 0, 0}, {"", "0195", 0, 19}, {"", "0196", 0, 20}, {"", "zzz", 0, 20}, {"zzz", "", 0, 0},
		{"0075", "0085", 7, 8}, {"0075", "0086", 7, 9}, {"0076", "0085", 0, 0}, {"0085", "0165", 8, 16}, {"0084", "0154", 8, 15}, {"0035", "0175", 3, 17}, {"007", "008", 7, 8},
		{"0035", "0035", 0, 0}, {"0085", "0085", 0, 0}, {"0036", "0036", 0, 0}, {"0045", "0035", 0, 0}, {"0175", "0035", 0, 0}, {"zzz", "0", 0, 0}, {"zzz", "zz", 0, 0}, {"0185", "0", 0, 0},
	} {
		if got := x.Range([]byte(c.from), []byte(c.to)); !slices.EqualFunc(got, l[c.begin:c.end], same) {
			t.Errorf("P7.2: Range(%q, %q): %d entries; must be %d", c.from, c.to, len(got), c.end-c.begin)
		}
	}
}

// TestRangeOfNoEnds: nil and empty ends are the same.
func TestRangeOfNoEnds(t *testing.T) {
	l := ascending(20)
	x := opens(t, "20 entries", built(t, l...))
	for _, from := range [][]byte{nil, {}, roomy(nil)} {
		for _, to := range [][]byte{nil, {}, roomy(nil)} {
			if got := x.Range(from, to); !slices.EqualFunc(got, l, same) {
				t.Errorf("P7.2: Range without ends: %d entries", len(got))
			}
			if got := x.Range([]byte("0085"), to); !slices.EqualFunc(got, l[8:], same) {
				t.Errorf("P7.2: Range without a to: %d entries", len(got))
			}
			if got := x.Range(from, []byte("0085")); !slices.EqualFunc(got, l[:8], same) {
				t.Errorf("P7.2: Range without a from: %d entries", len(got))
			}
		}
	}
}

// TestFindThrownKeys holds Get and Range against a walk through the list.
func TestFindThrownKeys(t *testing.T) {
	r := rand.New(rand.NewSource(73))
	key := func() []byte { return thrown(r, 1)[0].Key[r.Intn(2):] }
	for range 300 {
		l := thrown(r, 80)
		x := opens(t, "thrown entries", built(t, l...))
		l = back(l)
		for range 30 {
			k := key()
			want := slices.IndexFunc(l, func(e api.Entry) bool { return bytes.Equal(e.Key, k) })
			if e, ok := x.Get(k); ok != (want >= 0) || ok && !same(e, l[want]) || !ok && !isZero(e) {
				t.Fatalf("P7.2: Get(%q): %v, %v; must be entry %d", k, e, ok, want)
			}
			ranges(t, x, l, key(), key())
		}
	}
}
