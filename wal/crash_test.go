package wal_test

import (
	"fmt"
	"testing"

	"marigraph/api"
	"marigraph/disk"
	"marigraph/wal"
)

func TestCrashOfTheDocument(t *testing.T) {
	d := fresh(t, 99)
	l := opens(t, "P5.3", d, "w", nil)
	l.Add(there("a", "1"))
	l.Sync()
	l.Add(there("b", "2"))
	d.Crash(3)
	opens(t, "P5.3: Add(a), Sync, Add(b), Crash(3)", d, "w", [][]api.Entry{{there("a", "1")}})
}

// goesOn fails unless what is Added and synced behind such an Open is there behind another crash.
func goesOn(t *testing.T, what string, d *disk.Disk, l *wal.Log, batches [][]api.Entry) {
	t.Helper()
	more := []api.Entry{there("more", "and more"), gone("less")}
	if l.Add(more...) != api.OK || l.Sync() != api.OK || l.Count() != len(batches)+1 {
		t.Errorf("%s: Add and Sync, Count %d", what, l.Count())
	}
	l.Add(there("lost", "again"))
	d.Crash(4)
	all := append(append([][]api.Entry{}, batches...), more)
	opens(t, what+", and more", d, "w", all)
	if b, _ := d.Read("w"); string(b) != string(row(all)) {
		t.Errorf("%s, and more: %x, must be %x", what, b, row(all))
	}
}

// TestCrashAtEachPlace: with a Sync behind each number of batches, and a crash that keeps each number of the bytes since.
func TestCrashAtEachPlace(t *testing.T) {
	all := some()
	for ahead := range len(all) + 1 {
		fast := len(row(all[:ahead]))
		for keep := -1; keep <= len(row(all))-fast+2; keep++ {
			what := fmt.Sprintf("P5.3: %d batches ahead of Sync, Crash(%d)", ahead, keep)
			d := fresh(t, room)
			l := opens(t, what, d, "w", nil)
			for i, batch := range all {
				if i == ahead {
					l.Sync()
				}
				l.Add(batch...)
			}
			if ahead == len(all) {
				l.Sync()
			}
			d.Crash(keep)
			want, end := whole(all, fast+max(keep, 0))
			l = opens(t, what, d, "w", want)
			if b, _ := d.Read("w"); len(want) < ahead || string(b) != string(row(all)[:end]) || d.Synced("w") != end {
				t.Errorf("%s: %x is left, %d synced", what, b, d.Synced("w"))
			}
			goesOn(t, what, d, l, want)
		}
	}
}

// run Adds each batch, syncs behind each whose number is in syncs, and answers how many batches were tried, and how many of them were ahead of the last Sync that was not refused.
func run(d *disk.Disk, all [][]api.Entry, syncs int) (tried, fast int) {
	l, _, why := wal.Open(d, "w")
	if why != api.OK {
		return 0, 0
	}
	for i, batch := range all {
		if d.Down() {
			return tried, fast
		}
		tried++
		added := l.Add(batch...)
		if syncs>>i&1 == 1 && l.Sync() == api.OK && added == api.OK {
			fast = tried
		}
	}
	return tried, fast
}

// TestPowerAtEachCall: power goes at each call of a run, for each choice of Syncs, and behind it a crash keeps each number of bytes.
func TestPowerAtEachCall(t *testing.T) {
	all := [][]api.Entry{{there("a", "1")}, nil, {gone("b"), there("c", "3")}, {there("d", "")}}
	for syncs := range 1 << len(all) {
		for n := 1; n <= 10; n++ {
			for keep := range len(row(all)) + 2 {
				what := fmt.Sprintf("P5.3: Syncs %b, power goes at call %d, Crash(%d)", syncs, n, keep)
				d := fresh(t, room)
				d.Arm(n)
				tried, fast := run(d, all, syncs)
				d.Crash(keep)
				l, got, why := wal.Open(d, "w")
				if why != api.OK || len(got) < fast || len(got) > tried || !same(got, all[:len(got)]) || l.Count() != len(got) {
					t.Fatalf("%s: Open: %x, %v; %d tried, %d ahead of the last Sync", what, row(got), why, tried, fast)
				}
				if want, _ := whole(all, d.Synced("w")); len(got) != len(want) {
					t.Errorf("%s: Open: %d batches, must be %d", what, len(got), len(want))
				}
				goesOn(t, what, d, l, got)
			}
		}
	}
}
