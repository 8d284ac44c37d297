package block_test

import (
	"bytes"
	"fmt"
	"math/rand"
	"testing"

	"marigraph/api"
	"marigraph/block"
)

func TestBuildOfTheDocument(t *testing.T) {
	if b, why := block.Build(); len(b) > 0 || why != api.ErrArg {
		t.Errorf("P6.1: Build of none: %x, %v", b, why)
	}
	b, why := block.Build(there("ab", ""), there("ac", ""))
	if string(b) != "\x00\x02ab\x01\x00\x00"+"\x01\x01c\x01\x00\x00"+"\x00\x00\x01" || why != api.OK {
		t.Errorf("P6.1: Build(ab, ac): %x, %v", b, why)
	}
}

// TestBuildByHand: blocks that are written out, so that they do not hang on plainBuild.
func TestBuildByHand(t *testing.T) {
	for want, l := range map[string][]api.Entry{
		"\x00\x01k\x00" + "\x00\x00\x01":            {gone("k")},
		"\x00\x01k\x01\x00\x01v" + "\x00\x00\x01":   {there("k", "v")},
		"\x00\x01\x00\x01\x00\x00" + "\x00\x00\x01": {there("\x00", "")},
		"\x00\x01a\x00" + "\x01\x01b\x00" + "\x02\x02cd\x00" + "\x01\x01c\x00" + "\x00\x02ad\x00" + "\x02\x01\x00\x00" + "\x00\x00\x00\x11\x02": {
			gone("a"), gone("ab"), gone("abcd"), gone("ac"), gone("ad"), gone("ad\x00")},
	} {
		if b, why := block.Build(l...); string(b) != want || why != api.OK {
			t.Errorf("P6.1: Build of %d entries: %x, %v; must be %x", len(l), b, why, want)
		}
	}
}

func TestBuildOfEachNumber(t *testing.T) {
	for n := range 260 {
		why := api.OK
		if n < 1 || n > 255 {
			why = api.ErrArg
		}
		b := builds(t, fmt.Sprintf("%d entries", n), many(n, n%3), why)
		if why == api.OK && int(b[len(b)-1]) != (n+3)/4 {
			t.Errorf("P6.1: Build of %d entries: %d beginnings", n, b[len(b)-1])
		}
	}
	builds(t, "65537 entries", many(1<<16+1, 0), api.ErrArg)
	if b, why := block.Build(nil...); len(b) > 0 || why != api.ErrArg {
		t.Errorf("P6.1: Build of nil: %x, %v", b, why)
	}
	builds(t, "an entry of nothing", make([]api.Entry, 1), api.ErrArg)
}

// TestBuildOfOrders lays two Keys at each place of a block: only those that rise may stand there.
func TestBuildOfOrders(t *testing.T) {
	for _, c := range []struct {
		first, second string
		why           api.Errno
	}{
		{"a", "b", api.OK}, {"a", "ab", api.OK}, {"ab", "ac", api.OK}, {"a", "a\x00", api.OK}, {"\x7f", "\x80", api.OK}, {"az", "b", api.OK}, {"\x00", "\x00\x00", api.OK}, {"\xfe", "\xff", api.OK},
		{"a", "a", api.ErrArg}, {"b", "a", api.ErrArg}, {"ab", "a", api.ErrArg}, {"ac", "ab", api.ErrArg}, {"a\x00", "a", api.ErrArg}, {"\x80", "\x7f", api.ErrArg}, {"b", "az", api.ErrArg}, {"\xff", "\xff", api.ErrArg},
	} {
		for ahead := range 9 {
			l := many(ahead, 0) // their Keys are digits, which stand ahead of A
			l = append(l, there("A"+c.first, "v"), there("A"+c.second, "w"))
			builds(t, fmt.Sprintf("%q and %q behind %d", c.first, c.second, ahead), l, c.why)
			l = append(l, there("B", ""))
			builds(t, fmt.Sprintf("%q and %q behind %d, ahead of one", c.first, c.second, ahead), l, c.why)
		}
		for _, isGone := range []bool{false, true} {
			l := []api.Entry{{Key: []byte(c.first), Gone: isGone}, {Key: []byte(c.second), Gone: !isGone}}
			builds(t, fmt.Sprintf("%q and %q, one of them Gone", c.first, c.second), l, c.why)
		}
	}
}

func TestBuildOfKeyLengths(t *testing.T) {
	for n, why := range map[int]api.Errno{0: api.ErrArg, 1: api.OK, 2: api.OK, 254: api.OK, 255: api.OK, 256: api.ErrArg, 257: api.ErrArg, 511: api.ErrArg, 512: api.ErrArg, 513: api.ErrArg, 70000: api.ErrArg} {
		for _, isGone := range []bool{false, true} {
			e := api.Entry{Key: bytes.Repeat([]byte{'k'}, n), Gone: isGone}
			builds(t, fmt.Sprintf("a Key of %d bytes", n), []api.Entry{e}, why)
			if n > 0 {
				builds(t, fmt.Sprintf("a Key of %d bytes behind one", n), []api.Entry{there("a", ""), e}, why)
				builds(t, fmt.Sprintf("a Key of %d bytes ahead of one", n), []api.Entry{e, there("l", "")}, why)
			} else {
				builds(t, "a Key of no bytes ahead of one", []api.Entry{e, there("l", "")}, why)
				builds(t, "a Key of no bytes behind one", []api.Entry{there("l", ""), e}, why)
				builds(t, "a Key that is nil", []api.Entry{{Gone: isGone}}, why)
			}
		}
	}
}

func TestBuildOfValueLengths(t *testing.T) {
	for n, why := range map[int]api.Errno{0: api.OK, 1: api.OK, 255: api.OK, 256: api.OK, 4094: api.OK, 4095: api.OK, 4096: api.ErrArg, 4097: api.ErrArg, 65535: api.ErrArg, 65536: api.ErrArg, 65537: api.ErrArg} {
		for place := range 6 {
			l := many(6, 2)
			l[place].Value = filled(n)
			builds(t, fmt.Sprintf("a Value of %d bytes at %d", n, place), l, why)
			l[place].Gone = true
			builds(t, fmt.Sprintf("a Gone one with a Value of %d bytes at %d", n, place), l, api.OK)
		}
	}
}

func TestBuildOfGone(t *testing.T) {
	with := gone("k")
	with.Value = []byte("not seen")
	for _, e := range []api.Entry{gone("k"), with} {
		for _, l := range [][]api.Entry{{e}, {e, there("l", "v")}, {there("j", "v"), e}, {gone("j"), e, gone("ka")}} {
			b := builds(t, "a Gone one", l, api.OK)
			if bytes.Contains(b, []byte("seen")) {
				t.Errorf("P6.1: a Gone one's Value is in the block: %x", b)
			}
		}
	}
}

// TestBuildOfLongShares: a Key of 255 bytes may share all but one of them, or all of the one ahead.
func TestBuildOfLongShares(t *testing.T) {
	long := filled(255)
	higher := bytes.Clone(long)
	higher[254]++
	l := []api.Entry{{Key: long[:1]}, {Key: long[:254]}, {Key: long, Value: []byte("v")}, {Key: higher, Gone: true}}
	b := builds(t, "long Keys that share", l, api.OK)
	if len(b) > 300 {
		t.Errorf("P6.1: Build of long Keys that share: %d bytes", len(b))
	}
	tells(t, "long Keys that share", b, l, starts(l))
}

// TestBuildOfWholeKeys: each fourth Key is whole, however much it would share.
func TestBuildOfWholeKeys(t *testing.T) {
	var l []api.Entry
	for n := 1; n <= 255; n++ {
		l = append(l, api.Entry{Key: bytes.Repeat([]byte{'a'}, n), Gone: true})
	}
	b := builds(t, "Keys that begin with the one ahead", l, api.OK)
	at := 0
	for i := range l {
		shared, more := i, 1
		if i%4 == 0 {
			shared, more = 0, i+1
		}
		if int(b[at]) != shared || int(b[at+1]) != more {
			t.Fatalf("P6.1: entry %d shares %d and has %d more; must be %d and %d", i, b[at], b[at+1], shared, more)
		}
		at += 3 + more
	}
	if at+64*2+1 != len(b) {
		t.Errorf("P6.1: %d bytes of entries and 64 beginnings: %d", at, len(b))
	}
}

// beginsAt are 17 entries of which the last, a fourth one, begins at that place.
func beginsAt(place int) []api.Entry {
	l := many(17, 0)
	lacks := place - starts(l)[4]
	for i := range 16 {
		l[i].Value = filled(min(4095, lacks))
		lacks -= len(l[i].Value)
	}
	return l
}

func TestBuildOfLateBeginnings(t *testing.T) {
	for place, why := range map[int]api.Errno{65000: api.OK, 65534: api.OK, 65535: api.OK, 65536: api.ErrLong, 65537: api.ErrLong} {
		l := beginsAt(place)
		if at := starts(l)[4]; at != place {
			t.Fatalf("the test's own block: a beginning at %d, not at %d", at, place)
		}
		b := builds(t, fmt.Sprintf("one that begins at %d", place), l, why)
		if why == api.OK {
			tells(t, fmt.Sprintf("one that begins at %d", place), b, l, starts(l))
		}
		for range 3 {
			l = append(l, many(len(l)+1, 0)[len(l)])
			builds(t, fmt.Sprintf("%d entries, of which one begins at %d", len(l), place), l, why)
		}
	}
}

// TestBuildOfLateOthers: of those that are no fourth ones any may begin above 65535.
func TestBuildOfLateOthers(t *testing.T) {
	l := append(beginsAt(65535)[:17:17], many(20, 4095)[17:]...)
	l[16].Value = filled(4095)
	b := builds(t, "three that begin above 65535", l, api.OK)
	tells(t, "three that begin above 65535", b, l, starts(l))
	builds(t, "four that begin above 65535", append(l[:20:20], there("9", "")), api.ErrLong)
	builds(t, "255 of the longest", many(255, 4095), api.ErrLong)
}

// TestBuildOfBothRefusals: ErrArg is named first, wherever it applies.
func TestBuildOfBothRefusals(t *testing.T) {
	for _, place := range []int{0, 1, 16, 17, 29} {
		for _, spoiled := range []api.Entry{
			{Value: filled(4095)}, there("", ""), {Key: bytes.Repeat([]byte{'k'}, 256)}, {Key: many(30, 0)[place].Key, Value: filled(4096)},
		} {
			l := many(30, 4095)
			builds(t, "30 of the longest", l, api.ErrLong)
			l[place] = spoiled
			builds(t, fmt.Sprintf("30 of the longest, the one at %d wrong", place), l, api.ErrArg)
		}
	}
	l := many(30, 4095)
	l[29].Key = l[28].Key
	builds(t, "30 of the longest, the last Keys the same", l, api.ErrArg)
	builds(t, "256 of the longest", many(256, 4095), api.ErrArg)
}

func TestBuildOfThrownEntries(t *testing.T) {
	r := rand.New(rand.NewSource(6))
	for range 2000 {
		l := thrown(r, 40)
		b := builds(t, "thrown entries", l, api.OK)
		tells(t, "thrown entries", b, back(l), starts(l))
	}
}
