package wal_test

import (
	"bytes"
	"fmt"
	"strings"
	"testing"

	"marigraph/api"
	"marigraph/disk"
	"marigraph/wal"
)

func open(d *disk.Disk) {
	wal.Open(d, "w")
}

func TestOpenOfWrongArguments(t *testing.T) {
	for _, name := range []string{"w", "", strings.Repeat("n", 32), strings.Repeat("n", 33)} {
		refuses(t, fmt.Sprintf("P5.1: nil and %q", name), nil, name, api.ErrArg, "")
	}
	for _, name := range []string{"", strings.Repeat("n", 33), strings.Repeat("w", 34), strings.Repeat("n", 1<<16)} {
		what := fmt.Sprintf("P5.1: a name of %d bytes", len(name))
		d := holding(t, row(some()), 9)
		before := state(d)
		refuses(t, what, d, name, api.ErrArg, before)
		d.Arm(1)
		refuses(t, what+", armed", d, name, api.ErrArg, before)
		if d.Down() {
			t.Errorf("%s: Open called what changes the disk", what)
		}
		refuses(t, what+", no power", powerless(d), name, api.ErrArg, before)
		refuses(t, what+", no files", fresh(t, 0), name, api.ErrArg, "")
	}
}

func TestOpenOfNoFile(t *testing.T) {
	for _, name := range []string{"x", "\x00", "\xff\xfe", "a b\n", strings.Repeat("n", 31), strings.Repeat("n", 32)} {
		what := fmt.Sprintf("P5.1: no file %q", name)
		make := func() *disk.Disk { return holding(t, row(some()), 9) }
		d := make()
		before := state(d)
		d.Create(name)
		after := state(d)
		d = make()
		opens(t, what, d, name, nil)
		if state(d) != after {
			t.Errorf("%s: Open left %s, must leave %s", what, state(d), after)
		}
		if n := spent(make, func(d *disk.Disk) { wal.Open(d, name) }); n != 1 {
			t.Errorf("%s: Open makes %d calls that change the disk", what, n)
		}
		refuses(t, what+", no power", powerless(make()), name, api.ErrFull, before)
		d = make()
		d.Arm(1)
		refuses(t, what+", power goes", d, name, api.ErrFull, before)
		if !d.Down() {
			t.Errorf("%s: Open did not Create", what)
		}
		d.Crash(0)
		opens(t, what+", power is back", d, name, nil)
	}
	opens(t, "P5.1: a disk without room", fresh(t, 0), "w", nil)
}

func TestOpenIsForGood(t *testing.T) {
	d := fresh(t, 0)
	opens(t, "P5.1: no file", d, "w", nil)
	d.Crash(0)
	if strings.Join(d.Names(), " ") != "w" {
		t.Errorf("P5.1: behind a crash: %q", d.Names())
	}
	opens(t, "P5.1: the file that Open made", d, "w", nil)
}

// TestOpenOfWhole: of what is not torn Open only reads, with power and without, whatever of it is synced.
func TestOpenOfWhole(t *testing.T) {
	for n := range len(some()) + 1 {
		batches := some()[:n]
		b := row(batches)
		for _, synced := range []int{0, len(b) / 2, len(b)} {
			what := fmt.Sprintf("P5.1: %d whole records, %d bytes synced", n, synced)
			make := func() *disk.Disk { return holding(t, b, synced) }
			d := make()
			before := state(d)
			for range 3 {
				opens(t, what, d, "w", batches)
			}
			opens(t, what+", no power", powerless(d), "w", batches)
			if state(d) != before {
				t.Errorf("%s: Open left %s, must leave %s", what, state(d), before)
			}
			if n := spent(make, open); n != 0 {
				t.Errorf("%s: Open makes %d calls that change the disk", what, n)
			}
		}
	}
}

func TestOpenOfGreat(t *testing.T) {
	for _, batches := range [][][]api.Entry{
		{times(api.MaxOps, there("k", "v"))},
		{times(api.MaxOps, gone("k")), {there("a", "b")}},
		{{sized(api.MaxKey, api.MaxValue, false), sized(api.MaxKey, 0, true)}, {there("k", "")}},
		{atMost(t)},
	} {
		b := row(batches)
		opens(t, "P5.1: a great batch", holding(t, b, 0), "w", batches)
		first, end := whole(batches, len(b)-1)
		d := holding(t, b[:len(b)-1], 0)
		opens(t, "P5.1: a great batch without its last byte", d, "w", first)
		if got, _ := d.Read("w"); !bytes.Equal(got, b[:end]) {
			t.Errorf("P5.1: %d bytes are left of a great torn batch, must be %d", len(got), end)
		}
	}
	var many [][]api.Entry
	for i := range 3000 {
		many = append(many, []api.Entry{there(fmt.Sprint("k", i), fmt.Sprint(i))})
	}
	opens(t, "P5.1: many batches", holding(t, row(many), 0), "w", many)
}

// TestOpenOfTorn: a row that is cut off at each place loses what is no whole record, for good, and nothing else.
func TestOpenOfTorn(t *testing.T) {
	all := some()
	b := row(all)
	for n := range len(b) + 1 {
		batches, end := whole(all, n)
		for _, synced := range []int{0, end, (end + n) / 2, n} {
			what := fmt.Sprintf("P5.1: the first %d of %d bytes, %d synced", n, len(b), synced)
			make := func() *disk.Disk { return holding(t, b[:n], synced) }
			calls, left := 1, state(holding(t, b[:end], end))
			if n == end {
				calls, left = 0, state(make())
			}
			d := make()
			opens(t, what, d, "w", batches)
			if state(d) != left {
				t.Errorf("%s: Open left %s, must leave %s", what, state(d), left)
			}
			if got := spent(make, open); got != calls {
				t.Errorf("%s: Open makes %d calls that change the disk, must be %d", what, got, calls)
			}
			opens(t, what+", again, no power", powerless(d), "w", batches)
			d.Crash(0)
			again, _ := whole(all, d.Synced("w"))
			opens(t, what+", again behind a crash", d, "w", again)
			if calls == 1 {
				opensBehindPower(t, what, make, batches, left)
			}
		}
	}
}

// opensBehindPower: a Cut without power is refused, and another Open mends the file all the same.
func opensBehindPower(t *testing.T, what string, make func() *disk.Disk, batches [][]api.Entry, left string) {
	t.Helper()
	before := state(make())
	refuses(t, what+", no power", powerless(make()), "w", api.ErrFull, before)
	d := make()
	d.Arm(1)
	refuses(t, what+", power goes", d, "w", api.ErrFull, before)
	if !d.Down() {
		t.Errorf("%s: Open did not Cut", what)
	}
	d.Crash(1 << 20)
	opens(t, what+", power is back", d, "w", batches)
	if got, _ := d.Read("w"); !strings.Contains(left, fmt.Sprintf("\"w\"=%x/%d", got, d.Synced("w"))) {
		t.Errorf("%s: Open left %x, must leave %s", what, got, left)
	}
}

func TestOpenOfTornByHand(t *testing.T) {
	first := some()[:3]
	b := row(first)
	for _, torn := range []string{
		"\x00", "\xff", "x", "rubbi", "\xff\xff\xff\xff\xff", "\x00\x00\x00\x00\x00", "\x00\x00\x00\xff\xff",
		"\x00\x00\x01\xff\xff\xfe", "\x00\x00\x02\xff\xff\xfd\x00", "\x00\x01\x00\xff\xfe\xff" + strings.Repeat("x", 255), string(head(1 << 20)), string(head(1<<20)) + "rubbish",
	} {
		d := holding(t, append(bytes.Clone(b), torn...), 5)
		opens(t, fmt.Sprintf("P5.1: torn: %q", torn), d, "w", first)
		if left := state(holding(t, b, len(b))); state(d) != left {
			t.Errorf("P5.1: torn: %q: Open left %s, must leave %s", torn, state(d), left)
		}
		d = fresh(t, room)
		d.Create("w")
		d.Append("w", []byte(torn))
		opens(t, fmt.Sprintf("P5.1: nothing but torn: %q", torn), d, "w", nil)
		if state(d) != `"w"=/0` {
			t.Errorf("P5.1: nothing but torn: %q: Open left %s", torn, state(d))
		}
	}
}

// corrupt fails unless a file of these bytes is refused as it stands, without a call that changes the disk.
func corrupt(t *testing.T, what string, b []byte) {
	t.Helper()
	make := func() *disk.Disk { return holding(t, b, len(b)/2) }
	before := state(make())
	refuses(t, what, make(), "w", api.ErrCorrupt, before)
	refuses(t, what+", no power", powerless(make()), "w", api.ErrCorrupt, before)
	if n := spent(make, open); n != 0 {
		t.Errorf("%s: Open makes %d calls that change the disk", what, n)
	}
}

func TestOpenOfRubbish(t *testing.T) {
	for n := range len(some()) + 1 {
		b := row(some()[:n])
		for _, bad := range []string{
			"rubbish", "rubbis", "\x00\x00\x00\x00\x00\x00", "\xff\xff\xff\xff\xff\xff", "\x00\x00\x01\xff\xff\xff", "\x00\x00\x01\xff\xff\xff\x97", "\xff\xff\xfe\x00\x00\x01x",
			string(head(1<<20 + 1)), string(head(1<<24 - 1)), string(head(1<<20+1)) + "more", "\x00" + string(record(body(nil))),
		} {
			corrupt(t, fmt.Sprintf("P5.1: %d records and %q", n, bad), append(bytes.Clone(b), bad...))
		}
	}
}

func TestOpenOfTurnedLength(t *testing.T) {
	all := some()
	b := row(all)
	for n := range all {
		_, at := whole(all[:n], len(b))
		for i := at; i < at+6; i++ {
			for _, turn := range []byte{0x01, 0x02, 0x10, 0x80, 0xff} {
				turned := bytes.Clone(b)
				turned[i] ^= turn
				corrupt(t, fmt.Sprintf("P5.1: byte %d of the length of record %d turned by %x", i-at, n, turn), turned)
			}
		}
	}
}

// noBatches are whole records' bytes that no frame.Batch gave.
func noBatches() [][]byte {
	var out [][]byte
	for _, s := range []string{
		"", "\x00", "\x09", "\x00\x01", "\x01\x00", "rubbish", "\x00\x00\x00", "\x00\x01\x02\x01k\x00\x00", "\x00\x01\x01\x00\x00\x00", "\x00\x01\x00\x00",
		"\x00\x01\x01\x01k\x00\x02v", "\x00\x01\x01\x01k\x00\x00v", "\x00\x02\x00\x01k", "\x00\x01\x00\x01k\x00\x00", "\x00\x01\x01\x02k",
	} {
		out = append(out, []byte(s))
	}
	out = append(out, append([]byte("\x00\x01\x01\x01k\x10\x00"), make([]byte, 4096)...))
	return append(out, append([]byte("\x20\x00"), bytes.Repeat([]byte("\x00\x01k"), 8192)...))
}

func TestOpenOfNoBatch(t *testing.T) {
	all := some()
	for i, bad := range noBatches() {
		for n := range len(all) + 1 {
			what := fmt.Sprintf("P5.1: bytes %d of no batch behind %d records", i, n)
			b := append(row(all[:n]), record(bad)...)
			corrupt(t, what+", the last", b)
			b = append(b, row(all[n:])...)
			corrupt(t, what, b)
			corrupt(t, what+", and rubbish", append(bytes.Clone(b), "rubbish"...))
			tornBehindNoBatch(t, what+", and what is torn", b)
		}
	}
}

// tornBehindNoBatch: the chapter's order: the Cut and its refusal come ahead of the look at the records.
func tornBehindNoBatch(t *testing.T, what string, b []byte) {
	t.Helper()
	make := func() *disk.Disk { return holding(t, append(bytes.Clone(b), 0, 0, 9), 4) }
	d := make()
	before := state(d)
	refuses(t, what, d, "w", api.ErrCorrupt, state(holding(t, b, len(b))))
	refuses(t, what+", no power", powerless(make()), "w", api.ErrFull, before)
	if n := spent(make, open); n != 1 {
		t.Errorf("%s: Open makes %d calls that change the disk", what, n)
	}
}
