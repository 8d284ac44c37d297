package manifest_test

import (
	"fmt"
	"math/rand"
	"testing"

	"marigraph/api"
	"marigraph/disk"
	"marigraph/manifest"
)

// crashed Writes l while power goes at its n-th call, and crashes. It fails unless Read then tells l, if it was Written whole, or else what is ahead of it; it answers the lists that were Written whole.
func crashed(t *testing.T, what string, d *disk.Disk, ahead []manifest.List, l manifest.List, n, keep int) []manifest.List {
	t.Helper()
	d.Arm(n)
	why := manifest.Write(d, l)
	if n <= 4 && (why != api.ErrFull || !d.Down()) || n > 4 && (why != api.OK || d.Down()) {
		t.Errorf("%s: Write: %v, power gone: %t", what, why, d.Down())
	}
	if why == api.OK {
		ahead = append(append([]manifest.List{}, ahead...), l)
	}
	readsLast(t, what+", ahead of the crash", d, ahead)
	d.Crash(keep)
	readsLast(t, what, d, ahead)
	d.Crash(0)
	readsLast(t, what+", and another", d, ahead)
	return ahead
}

// goesOn fails unless a Write behind the crash is told, and stays behind another one.
func goesOn(t *testing.T, what string, d *disk.Disk, l manifest.List) {
	t.Helper()
	writes(t, what+", then a Write", d, l)
	reads(t, what+", then a Write", d, l)
	d.Crash(0)
	reads(t, what+", then a Write and a crash", d, l)
	if _, there := d.Read("new"); there {
		t.Errorf("%s, then a Write: the file new is still there", what)
	}
}

// TestPowerAtEachCall of the first Write and of later ones, with each number of bytes that a crash keeps; behind it the same list and others are Written.
func TestPowerAtEachCall(t *testing.T) {
	for at, l := range past() {
		ahead := past()[:at]
		size := len(record(laid(l)))
		for n := 1; n <= 6; n++ {
			for keep := -1; keep <= size+1; keep++ {
				if size > 100 && keep > 20 && keep < size-5 && keep%97 > 0 {
					continue
				}
				for _, more := range []manifest.List{l, list(0, 1), list(70, 90, 80, 60)} {
					what := fmt.Sprintf("P10.3: list %d, power goes at call %d, Crash(%d)", at, n, keep)
					d := having(t, ahead...)
					crashed(t, what, d, ahead, l, n, keep)
					goesOn(t, what, d, more)
				}
			}
		}
	}
}

// TestPowerThatGoesAgain: at each call of a first Write, then of a second, then of a third, before one is whole.
func TestPowerThatGoesAgain(t *testing.T) {
	size := len(record(laid(list(4, 5, 3, 1))))
	for _, first := range [][]manifest.List{nil, {list(0, 1)}} {
		for calls := range 6 * 6 * 6 {
			for _, keep := range []int{0, 1, 7, size - 1, size} {
				ahead := first
				d := having(t, first...)
				for step, n := range []int{calls/36 + 1, calls/6%6 + 1, calls%6 + 1} {
					what := fmt.Sprintf("P10.3: %d lists, calls %d, step %d, Crash(%d)", len(first), calls, step, keep)
					ahead = crashed(t, what, d, ahead, list(2*step, 9, step, 8-step), n, keep)
				}
				goesOn(t, "P10.3: power goes again and again", d, list(4, 5, 3, 1))
			}
		}
	}
}

// TestPowerAndRoom: power that goes where there is no room, too.
func TestPowerAndRoom(t *testing.T) {
	l := list(4, 5, 3, 1)
	size := len(record(laid(l)))
	for _, ahead := range [][]manifest.List{nil, {list(2, 3, 1)}} {
		for n := 1; n <= 4; n++ {
			for left := range size {
				for _, keep := range []int{0, 1, size} {
					what := fmt.Sprintf("P10.3: %d lists, %d bytes left, power goes at call %d, Crash(%d)", len(ahead), left, n, keep)
					d := having(t, ahead...)
					d.Grow(d.Used() + left)
					d.Arm(n)
					if why := manifest.Write(d, l); why != api.ErrFull {
						t.Errorf("%s: Write: %v", what, why)
					}
					d.Crash(keep)
					readsLast(t, what, d, ahead)
					d.Grow(room)
					goesOn(t, what, d, l)
				}
			}
		}
	}
}

// TestPowerOverStale: the file new is there from before, as long as the new one or not, whole or not.
func TestPowerOverStale(t *testing.T) {
	l := list(4, 5, 3, 1)
	b := record(laid(l))
	for _, stale := range [][]byte{nil, []byte("rubbish"), b, b[:8], record(laid(list(8, 9, 7, 6, 5, 4)))} {
		for _, synced := range []int{0, len(stale)} {
			for _, ahead := range [][]manifest.List{nil, {list(2, 3, 1)}} {
				for n := 1; n <= 6; n++ {
					for keep := range len(b) + 2 {
						what := fmt.Sprintf("P10.3: %d stale bytes, %d synced, %d lists, power goes at call %d, Crash(%d)", len(stale), synced, len(ahead), n, keep)
						d := having(t, ahead...)
						put(d, "new", stale, synced)
						crashed(t, what, d, ahead, l, n, keep)
						goesOn(t, what, d, list(0, 1))
					}
				}
			}
		}
	}
}

// TestThrownPower: long rows of Writes, some of wrong lists, while power goes at thrown calls.
func TestThrownPower(t *testing.T) {
	r := rand.New(rand.NewSource(12))
	all, bad := well(), wrong()
	for range 60 {
		d := having(t)
		var whole []manifest.List
		for step := range 60 {
			if r.Intn(3) == 0 {
				d.Arm(r.Intn(9))
			}
			l := all[r.Intn(len(all))]
			if r.Intn(5) == 0 {
				l = bad[r.Intn(len(bad))]
			}
			if manifest.Write(d, l) == api.OK {
				whole = []manifest.List{l}
			}
			if d.Down() || r.Intn(6) == 0 {
				d.Crash(r.Intn(40) - 1)
			}
			readsLast(t, fmt.Sprint("P10.3: thrown, step ", step), d, whole)
		}
	}
}
