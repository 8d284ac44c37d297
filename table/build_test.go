package table_test

import (
	"bytes"
	"fmt"
	"math/rand"
	"slices"
	"testing"

	"marigraph/api"
	"marigraph/table"
)

// TestBuildByHand: tables that are written out, so that they hang neither on the test's own layout nor on package block.
func TestBuildByHand(t *testing.T) {
	for want, l := range map[string][]api.Entry{
		"\x00\x01k\x00\x00\x00\x01" + "\x00\x01\x00\x00\x00\x07" + "\x00\x00\x00\x07mari":                             {gone("k")},
		"\x00\x02ab\x01\x00\x011" + "\x01\x01c\x00" + "\x00\x00\x01" + "\x00\x01\x00\x00\x00\x0f\x00\x00\x00\x0fmari": {there("ab", "1"), gone("ac")},
		"\x00\x01a\x00" + "\x00\x01b\x00" + "\x00\x01c\x00" + "\x00\x01d\x00" + "\x00\x01e\x00" + "\x00\x01f\x00" + "\x00\x01g\x00" + "\x00\x01h\x00" + "\x00\x00\x00\x10\x02" +
			"\x00\x02ha\x01\x00\x01v" + "\x00\x00\x01" + "\x00\x02\x00\x00\x00\x25\x00\x00\x00\x0b" + "\x00\x00\x00\x30mari": {
			gone("a"), gone("b"), gone("c"), gone("d"), gone("e"), gone("f"), gone("g"), gone("h"), there("ha", "v")},
	} {
		if b, why := table.Build(l...); string(b) != want || why != api.OK {
			t.Errorf("P7.1: Build of %d entries: %x, %v; must be %x", len(l), b, why, want)
		}
		tells(t, "a table by hand", []byte(want), l)
	}
}

func TestBuildOfEachNumber(t *testing.T) {
	builds(t, "nil", nil, api.ErrArg)
	builds(t, "none", []api.Entry{}, api.ErrArg)
	builds(t, "an entry of nothing", make([]api.Entry, 1), api.ErrArg)
	numbers := []int{255, 256, 257, 2040, 2041, 65528, 65529, 65534, 65535}
	for n := 1; n < 67; n++ {
		numbers = append(numbers, n)
	}
	for _, n := range numbers {
		what := fmt.Sprintf("%d entries", n)
		tells(t, what, builds(t, what, many(n), api.OK), many(n))
	}
	for _, n := range []int{65536, 65537, 131071} {
		builds(t, fmt.Sprintf("%d entries", n), many(n), api.ErrArg)
	}
}

// TestIndexAndFooter reads where each block lies as the document says, from the end on.
func TestIndexAndFooter(t *testing.T) {
	number := func(b []byte) int {
		n := 0
		for _, c := range b {
			n = n*256 + int(c)
		}
		return n
	}
	for _, n := range []int{1, 7, 8, 9, 16, 17, 24, 256, 1000, 65535} {
		l := many(n)
		b, _ := table.Build(l...)
		if string(b[len(b)-4:]) != "mari" {
			t.Fatalf("P7.1: %d entries end with %q", n, b[len(b)-4:])
		}
		begin := number(b[len(b)-8 : len(b)-4])
		count := number(b[begin : begin+2])
		if count != (n+7)/8 || begin+2+4*count+8 != len(b) {
			t.Fatalf("P7.1: %d entries: an index of %d blocks at %d of %d bytes", n, count, begin, len(b))
		}
		at := 0
		for i := range count {
			length := number(b[begin+2+4*i:][:4])
			if string(b[at:at+length]) != blockOf(l[8*i:min(8*i+8, n)]...) {
				t.Fatalf("P7.1: %d entries: block %d is not of its entries", n, i)
			}
			at += length
		}
		if at != begin {
			t.Errorf("P7.1: %d entries: blocks of %d bytes, and an index at %d", n, at, begin)
		}
	}
}

// TestBuildOfOrders lays two Keys at each place of some blocks: only those that rise may stand there, within a block and from one to the next.
func TestBuildOfOrders(t *testing.T) {
	for _, c := range []struct {
		first, second string
		why           api.Errno
	}{
		{"a", "b", api.OK}, {"a", "ab", api.OK}, {"ab", "ac", api.OK}, {"a", "a\x00", api.OK}, {"\x7f", "\x80", api.OK}, {"az", "b", api.OK}, {"\xfe", "\xff", api.OK},
		{"a", "a", api.ErrArg}, {"b", "a", api.ErrArg}, {"ab", "a", api.ErrArg}, {"ac", "ab", api.ErrArg}, {"a\x00", "a", api.ErrArg}, {"\x80", "\x7f", api.ErrArg}, {"b", "az", api.ErrArg}, {"\xff", "\xff", api.ErrArg},
	} {
		for ahead := range 25 {
			for more := range 10 {
				l := append(many(ahead), there("A"+c.first, "v"), there("A"+c.second, "w")) // behind all digits
				for i := range more {
					l = append(l, gone(fmt.Sprintf("B%d", i)))
				}
				builds(t, fmt.Sprintf("%q and %q behind %d, ahead of %d", c.first, c.second, ahead, more), l, c.why)
			}
		}
	}
}

// TestBuildOfOneOutOfOrder moves an entry of 25 to each other place.
func TestBuildOfOneOutOfOrder(t *testing.T) {
	for from := range 25 {
		for to := range 25 {
			l := many(25)
			e := l[from]
			l = slices.Insert(slices.Delete(l, from, from+1), to, e)
			why := api.ErrArg
			if from == to {
				why = api.OK
			}
			builds(t, fmt.Sprintf("25 entries, that at %d laid at %d", from, to), l, why)
			if l = many(25); from != to {
				l[to].Key = l[from].Key
				builds(t, fmt.Sprintf("25 entries, that at %d with the Key of that at %d", to, from), l, api.ErrArg)
			}
		}
	}
}

// TestBuildOfWrongEntries lays entries of all lengths at each place of some blocks.
func TestBuildOfWrongEntries(t *testing.T) {
	for place := range 18 {
		for n, why := range map[int]api.Errno{0: api.ErrArg, 1: api.OK, 2: api.OK, 254: api.OK, 255: api.OK, 256: api.ErrArg, 257: api.ErrArg, 511: api.ErrArg, 512: api.ErrArg, 70000: api.ErrArg} {
			for _, isGone := range []bool{false, true} {
				l := append(many(place), api.Entry{Key: []byte(long(n)), Gone: isGone})
				builds(t, fmt.Sprintf("a Key of %d bytes at %d, the last", n, place), l, why)
				l = append(l, there("l", ""), there("m", ""))
				builds(t, fmt.Sprintf("a Key of %d bytes at %d", n, place), l, why)
			}
		}
		for n, why := range map[int]api.Errno{0: api.OK, 1: api.OK, 255: api.OK, 256: api.OK, 4095: api.OK, 4096: api.ErrArg, 4097: api.ErrArg, 65535: api.ErrArg, 65536: api.ErrArg, 69631: api.ErrArg} {
			l := many(18)
			l[place] = there(string(l[place].Key), long(n))
			builds(t, fmt.Sprintf("a Value of %d bytes at %d", n, place), l, why)
			l[place].Gone = true
			builds(t, fmt.Sprintf("a Gone one with a Value of %d bytes at %d", n, place), l, api.OK)
		}
	}
}

func TestBuildOfGone(t *testing.T) {
	for _, n := range []int{1, 8, 9, 20} {
		l := many(n)
		for i := range l {
			l[i].Gone, l[i].Value = true, []byte("not seen")
		}
		b := builds(t, "Gone ones", l, api.OK)
		if bytes.Contains(b, []byte("seen")) {
			t.Errorf("P7.1: a Gone one's Value is in the table: %x", b)
		}
		tells(t, "Gone ones", b, back(l))
	}
}

// TestBuildOfTheLongest: no block of a table is too long, though block.Build refuses some.
func TestBuildOfTheLongest(t *testing.T) {
	var l []api.Entry
	for i := range 500 {
		l = append(l, there(fmt.Sprintf("%05d%s", i, long(250)), long(4095)))
	}
	for _, n := range []int{1, 8, 9, 17, 255, 256, 500} {
		what := fmt.Sprintf("%d of the longest entries", n)
		tells(t, what, builds(t, what, l[:n], api.OK), l[:n])
	}
}

func TestBuildOfThrownEntries(t *testing.T) {
	r := rand.New(rand.NewSource(7))
	for range 1000 {
		l := thrown(r, 60)
		tells(t, "thrown entries", builds(t, "thrown entries", l, api.OK), back(l))
	}
}
