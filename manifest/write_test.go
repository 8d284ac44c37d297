package manifest_test

import (
	"bytes"
	"fmt"
	"testing"

	"marigraph/api"
	"marigraph/disk"
	"marigraph/manifest"
)

// wrong are lists of each kind that Encode refuses.
func wrong() []manifest.List {
	return []manifest.List{
		{}, list(5, 5), list(6, 5), list(-1, 5), list(0, -1), list(0, top+1), list(top, top), list(top+1, top+2), list(0, 1<<32+1),
		list(0, 5, 5), list(0, 5, 1, 6), list(0, 5, -1), list(0, 5, 2, -1, 3), list(0, 5, 3, 3), list(0, 5, 3, 2, 3), list(0, 0, 0), list(0, top+2, top+1), list(0, 300, upTo(256)...), list(0, 999, upTo(512)...),
	}
}

// past are lists that were Written one behind the other, each an ordinary step of a database.
func past() []manifest.List {
	return []manifest.List{list(0, 1), list(2, 3, 1), list(4, 5, 3, 1), list(4, 6, 5), list(4, 7), list(8, 300, upTo(255)...), list(0, 1)}
}

func TestReadOfNone(t *testing.T) {
	readsNone(t, "P10.2: an empty disk", fresh(t, room), api.OK)
	readsNone(t, "P10.2: a disk without room", fresh(t, 0), api.OK)
	d := having(t)
	readsNone(t, "P10.2: files beside it", d, api.OK)
	readsNone(t, "P10.2: no power", powerless(d), api.OK)
	put(d, "new", record(laid(list(0, 1))), 3)
	readsNone(t, "P10.2: a file that has not its name yet", d, api.OK)
	d = having(t, list(0, 1))
	d.Remove("list")
	readsNone(t, "P10.2: a list that was removed", d, api.OK)
}

func TestNilDisk(t *testing.T) {
	readsNone(t, "P10.2: nil", nil, api.ErrArg)
	for _, l := range append(well(), wrong()...) {
		if why := manifest.Write(nil, l); why != api.ErrArg {
			t.Errorf("P10.2: Write of %s to nil: %v", show(l), why)
		}
	}
}

// TestWrite: each list, behind none and behind another one, is told as it was Written, and lies there as the document says, synced.
func TestWrite(t *testing.T) {
	for _, l := range well() {
		for _, ahead := range [][]manifest.List{nil, {list(2, 3, 1)}, {list(0, 1), list(8, 300, upTo(255)...)}, {l}} {
			what := fmt.Sprintf("P10.2: behind %d lists", len(ahead))
			d := having(t, ahead...)
			writes(t, what, d, l)
			reads(t, what, d, l)
			b := record(laid(l))
			if want := state(holding(t, b, len(b))); state(d) != want {
				t.Errorf("%s: Write of %s left %s, must leave %s", what, show(l), state(d), want)
			}
			for keep := range 3 {
				d.Crash(keep)
				reads(t, what+", and a crash", d, l)
			}
			calls := spent(func() *disk.Disk { return having(t, ahead...) }, func(d *disk.Disk) { manifest.Write(d, l) })
			if calls != 4 {
				t.Errorf("%s: Write of %s makes %d calls that change the disk", what, show(l), calls)
			}
		}
	}
}

// TestWriteOneBehindTheOther: the last one alone is told, whatever stood there.
func TestWriteOneBehindTheOther(t *testing.T) {
	d := fresh(t, room)
	for range 3 {
		for _, l := range past() {
			writes(t, "P10.2: one behind the other", d, l)
			reads(t, "P10.2: one behind the other", d, l)
			reads(t, "P10.2: the same again", d, l)
			if names := fmt.Sprint(d.Names()); names != "[list]" {
				t.Errorf("P10.2: one behind the other: files %s", names)
			}
		}
	}
	other := fresh(t, room)
	writes(t, "P10.2: two disks", other, list(2, 3, 1))
	reads(t, "P10.2: two disks", d, list(0, 1))
	reads(t, "P10.2: two disks", other, list(2, 3, 1))
}

// TestWriteInItsSteps: power that goes at each call shows what the calls ahead of it made.
func TestWriteInItsSteps(t *testing.T) {
	l := list(4, 5, 3, 1)
	b := record(laid(l))
	for _, ahead := range [][]manifest.List{nil, {list(2, 3, 1)}} {
		for n := 1; n <= 4; n++ {
			what := fmt.Sprintf("P10.2: power goes at call %d, %d lists", n, len(ahead))
			want := having(t, ahead...)
			switch n {
			case 2, 3:
				put(want, "new", b, 0)
			case 4:
				put(want, "new", b, len(b))
			}
			d := having(t, ahead...)
			d.Arm(n)
			if why := manifest.Write(d, l); why != api.ErrFull || !d.Down() {
				t.Errorf("%s: %v, power gone: %t", what, why, d.Down())
			}
			if state(d) != state(want) {
				t.Errorf("%s: %s is left, must be %s", what, state(d), state(want))
			}
			readsLast(t, what, d, ahead)
		}
	}
}

func TestWriteWithoutPower(t *testing.T) {
	for _, ahead := range [][]manifest.List{nil, {list(2, 3, 1)}, past()} {
		d := powerless(having(t, ahead...))
		before := state(d)
		for _, l := range well() {
			if why := manifest.Write(d, l); why != api.ErrFull || state(d) != before {
				t.Errorf("P10.2: Write without power: %v, changed: %t", why, state(d) != before)
			}
			readsLast(t, "P10.2: no power", d, ahead)
		}
		for _, l := range wrong() {
			if why := manifest.Write(d, l); why != api.ErrArg || state(d) != before {
				t.Errorf("P10.2: Write of %s without power: %v", show(l), why)
			}
		}
	}
}

// TestWriteOfWrong: Encode's refusal comes first, and no call is made that the disk counts.
func TestWriteOfWrong(t *testing.T) {
	for _, l := range wrong() {
		if mayBe(l) {
			t.Fatalf("a list of the tests that may be: %s", show(l))
		}
		for _, ahead := range [][]manifest.List{nil, {list(2, 3, 1)}, past()} {
			for _, stale := range []bool{false, true} {
				d := having(t, ahead...)
				if stale {
					put(d, "new", []byte("stale"), 2)
				}
				before := state(d)
				d.Grow(d.Used())
				d.Arm(1)
				if why := manifest.Write(d, l); why != api.ErrArg || state(d) != before || d.Down() {
					t.Errorf("P10.2: Write of %s: %v, left %s, power gone: %t", show(l), why, state(d), d.Down())
				}
				readsLast(t, "P10.2: behind a Write that was refused", d, ahead)
				d.Arm(0)
				d.Grow(room)
				writes(t, "P10.2: behind a Write that was refused", d, list(4, 5, 3, 1))
				reads(t, "P10.2: behind a Write that was refused", d, list(4, 5, 3, 1))
			}
		}
	}
}

// TestWriteAndRoom: the new list lies beside the old one for a while, so both must have room.
func TestWriteAndRoom(t *testing.T) {
	for _, ahead := range [][]manifest.List{nil, {list(0, 1)}, {list(8, 300, upTo(255)...)}} {
		for _, l := range []manifest.List{list(0, 1), list(4, 5, 3, 1), list(0, 255, upTo(255)...)} {
			used := having(t, ahead...).Used()
			need := len(record(laid(l)))
			for _, left := range []int{0, 1, 6, need - 1, need, need + 1} {
				what := fmt.Sprintf("P10.2: %d lists, room for %d bytes, %d are needed", len(ahead), left, need)
				d := having(t, ahead...)
				d.Grow(used + left)
				why := manifest.Write(d, l)
				if left >= need {
					if why != api.OK {
						t.Errorf("%s: Write: %v", what, why)
					}
					reads(t, what, d, l)
					continue
				}
				want := having(t, ahead...)
				want.Create("new")
				if why != api.ErrFull || state(d) != state(want) || d.Down() {
					t.Errorf("%s: Write: %v, left %s, must leave %s", what, why, state(d), state(want))
				}
				readsLast(t, what, d, ahead)
				d.Crash(9)
				readsLast(t, what+", and a crash", d, ahead)
				d.Grow(room)
				writes(t, what+", then more", d, l)
				reads(t, what+", then more", d, l)
			}
		}
	}
}

// TestWriteOfTooMany: more tables than a list has, on any disk; as many files as one likes beside it.
func TestWriteOfTooMany(t *testing.T) {
	most := list(255, 256, upTo(255)...)
	d := having(t, most)
	before := state(d)
	if why := manifest.Write(d, list(256, 257, upTo(256)...)); why != api.ErrArg || state(d) != before {
		t.Errorf("P10.2: Write of 256 tables: %v, changed: %t", why, state(d) != before)
	}
	reads(t, "P10.2: behind a Write of 256 tables", d, most)
	for i := range 2000 {
		d.Create(manifest.Table(i))
		d.Create(manifest.Wal(i))
	}
	writes(t, "P10.2: many files", d, list(4, 5, 3, 1))
	reads(t, "P10.2: many files", d, list(4, 5, 3, 1))
}

// TestWriteOverStale: what an earlier Write left makes no difference, whatever it is, and takes no room.
func TestWriteOverStale(t *testing.T) {
	l := list(4, 5, 3, 1)
	b := record(laid(l))
	for _, stale := range [][]byte{nil, []byte("x"), []byte("rubbish"), b, b[:9], bytes.Repeat([]byte("long"), 100), record(laid(list(8, 9, 7)))} {
		for _, synced := range []int{0, len(stale) / 2, len(stale)} {
			for _, ahead := range [][]manifest.List{nil, {list(2, 3, 1)}} {
				what := fmt.Sprintf("P10.2: a stale file of %d bytes, %d synced, %d lists", len(stale), synced, len(ahead))
				d := having(t, ahead...)
				used := d.Used()
				put(d, "new", stale, synced)
				readsLast(t, what, d, ahead)
				d.Grow(max(d.Used(), used+len(b)))
				writes(t, what, d, l)
				reads(t, what, d, l)
				if want := state(holding(t, b, len(b))); state(d) != want {
					t.Errorf("%s: %s is left, must be %s", what, state(d), want)
				}
			}
		}
	}
}

// TestWriteOverCorrupt: a Write asks nothing of the list that is there.
func TestWriteOverCorrupt(t *testing.T) {
	for _, stands := range []string{"", "rubbish", "\x00\x00\x07", string(record(nil))} {
		d := holding(t, []byte(stands), len(stands)/2)
		readsNone(t, "P10.2: ahead of a Write", d, api.ErrCorrupt)
		writes(t, "P10.2: over a corrupt one", d, list(2, 3, 1))
		reads(t, "P10.2: over a corrupt one", d, list(2, 3, 1))
	}
}
