package kv_test

import (
	"fmt"
	"math/rand"
	"slices"
	"testing"

	"marigraph/api"
	"marigraph/disk"
	"marigraph/kv"
)

// history is what each beginning of the Puts that were tried makes, and how many of them must outlast a crash.
type history struct {
	states []plain
	sure   int
}

// note writes a step down that was answered with why. A Put at which power went may be in the log; one that may not be never is.
func (h *history) note(s step, why api.Errno, each bool) {
	if s.kind == 'p' && (why == api.OK || why == api.ErrFull) {
		h.states = append(h.states, h.states[len(h.states)-1].with(s.l...))
	}
	if why == api.OK && (s.kind == 's' || s.kind == 'f' || s.kind == 'p' && each) {
		h.sure = len(h.states) - 1
	}
}

// run takes the steps on a new database, while power goes at the n-th call behind its Open, and looks on behind each. What is tried without power is refused, and so no Put of the history.
func run(t *testing.T, what string, d *disk.Disk, each bool, steps []step, n int) *history {
	t.Helper()
	db := opens(t, what, d, each)
	d.Arm(n)
	h := &history{states: []plain{{}}}
	seen := plain{}
	for i, s := range steps {
		dark, files := d.Down(), state(d)
		why := s.do(db)
		if !dark {
			h.note(s, why, each)
		}
		if why == api.OK && s.kind == 'p' {
			seen = seen.with(s.l...)
		}
		if why != api.OK && (why != api.ErrFull || !d.Down()) || dark && (state(d) != files || why == api.OK && s.kind == 'p') {
			t.Fatalf("%s: step %d, %s: %d", what, i, s, int(why))
		}
		tells(t, fmt.Sprintf("%s: step %d", what, i), db, seen)
	}
	return h
}

// follows fails unless the database tells what one of the beginnings made that may be; it answers that.
func (h *history) follows(t *testing.T, what string, db *kv.DB) plain {
	t.Helper()
	got := show(db.Range(nil, nil))
	for _, p := range h.states[h.sure:] {
		if p.String() == got {
			tells(t, what, db, p)
			return p
		}
	}
	t.Fatalf("P11.4: %s: there is %s, which is none of %v", what, got, h.states[h.sure:])
	return nil
}

// onlyNamed fails unless there are just a list, so many tables and one log, or a log alone.
func onlyNamed(t *testing.T, what string, d *disk.Disk, db *kv.DB) {
	t.Helper()
	all := d.Names()
	want := db.Tables() + 1
	if slices.Contains(all, "list") {
		want++
	}
	if len(all) != want || slices.Contains(all, "new") {
		t.Errorf("P11.1: %s: files %s, %d Tables", what, names(d), db.Tables())
	}
}

// goesOn fails unless what is Put behind a crash, and flushed or synced, outlasts another one, and what is Put behind it is lost there.
func goesOn(t *testing.T, what string, d *disk.Disk, p plain) {
	t.Helper()
	db := opens(t, what, d, false)
	for i, s := range []step{put(there("more", "1"), gone("a")), syncs, flushes, put(there("and", "more")), syncs, merges} {
		answers(t, fmt.Sprintf("%s, then step %d", what, i), s.do(db), api.OK)
		p = p.with(s.l...)
		if s.kind == 'p' {
			continue
		}
		tells(t, what+", and more", db, p)
		answers(t, what, db.Put(there("lost", "again")), api.OK)
		d.Crash(3)
		db = opens(t, what, d, false)
		tells(t, what+", and more, and a crash", db, p)
	}
	if t.Failed() {
		t.FailNow()
	}
}

// script has each call in each state: over nothing, over a table, over several, over one that was merged, over none again.
func script() []step {
	return []step{
		put(there("a", "1"), there("b", "1")), put(there("c", "1")), syncs, put(gone("a")), flushes,
		put(there("a", "2")), put(gone("b"), there("d", "2")), flushes, put(there("b", "3")), merges,
		put(gone("c")), syncs, put(there("e", "")), flushes, flushes, merges,
		put(gone("a"), gone("b")), put(gone("d"), gone("e")), flushes, merges, put(there("f", "4")), put(there("f", "5")), syncs, put(gone("f")),
	}
}

// calls is how many calls that change the disk the script makes.
func calls(t *testing.T, each bool, steps []step) int {
	t.Helper()
	lay := func() (*disk.Disk, *kv.DB) {
		d := fresh(t, room)
		return d, opens(t, "P11.4", d, each)
	}
	return spent(t, lay, func(_ *disk.Disk, db *kv.DB) {
		for _, s := range steps {
			s.do(db)
		}
	})
}

// TestPowerAtEachCall of a script, with each number of bytes that a crash keeps.
func TestPowerAtEachCall(t *testing.T) {
	for _, each := range []bool{false, true} {
		last := calls(t, each, script())
		if last < 60 {
			t.Fatalf("P11.4: the script makes %d calls", last)
		}
		for n := 1; n <= last+1; n++ {
			for _, keep := range []int{-1, 0, 1, 5, 6, 7, 13, 14, 15, 16, 20, 22, 23, 24, 30, 40, room} {
				what := fmt.Sprintf("P11.4: each %t, power goes at call %d, Crash(%d)", each, n, keep)
				d := fresh(t, room)
				h := run(t, what, d, each, script(), n)
				d.Crash(keep)
				db := opens(t, what, d, each)
				onlyNamed(t, what, d, db)
				goesOn(t, what, d, h.follows(t, what, db))
			}
		}
	}
}

// TestPowerThatGoesAgain: at each call of the Open behind the crash, once and again.
func TestPowerThatGoesAgain(t *testing.T) {
	for n := 1; n <= calls(t, false, script())+1; n++ {
		for _, keep := range []int{0, 3, 14} {
			var want plain
			for again := range 8 {
				what := fmt.Sprintf("P11.4: power goes at call %d, Crash(%d), then at call %d of Open", n, keep, again)
				d := fresh(t, room)
				h := run(t, what, d, false, script(), n)
				d.Crash(keep)
				for m := again; m > 0; m-- {
					d.Arm(m)
					db, why := kv.Open(d, false)
					if why == api.OK {
						h.follows(t, what, db)
					} else if why != api.ErrFull || db != nil {
						t.Errorf("%s: Open: %d", what, int(why))
					}
					d.Crash(again - m)
				}
				db := opens(t, what, d, false)
				onlyNamed(t, what, d, db)
				p := h.follows(t, what, db)
				if want == nil {
					want = p
				}
				if p.String() != want.String() {
					t.Errorf("%s: there is %s; without it there was %s", what, p, want)
				}
			}
		}
	}
}

// TestThrownPower: thrown scripts, crash behind crash, each from what the one ahead of it left.
func TestThrownPower(t *testing.T) {
	for seed := range 150 {
		r := rand.New(rand.NewSource(int64(seed)))
		d := fresh(t, room)
		p := plain{}
		for round := range 12 {
			each := r.Intn(3) == 0
			what := fmt.Sprintf("P11.4: seed %d, round %d", seed, round)
			db := opens(t, what, d, each)
			tells(t, what, db, p)
			h := &history{states: []plain{p}}
			d.Arm(r.Intn(40))
			for range r.Intn(25) {
				s := thrownStep(r)
				h.note(s, s.do(db), each)
				if d.Down() {
					break
				}
			}
			d.Crash(r.Intn(30) - 1)
			db = opens(t, what, d, each)
			onlyNamed(t, what, d, db)
			p = h.follows(t, what, db)
		}
	}
}

// TestFlushAndMergeAreNotSeen: the same Puts, with and without Syncs, Flushes, Merges and Opens anew between them, tell the same all the way.
func TestFlushAndMergeAreNotSeen(t *testing.T) {
	for seed := range 200 {
		r := rand.New(rand.NewSource(int64(seed)))
		d, db := having(t)
		_, bare := having(t)
		for n := range 40 {
			what := fmt.Sprintf("P11.4: seed %d, Put %d", seed, n)
			l := thrownBatch(r)
			answers(t, what, db.Put(l...), api.OK)
			answers(t, what, bare.Put(l...), api.OK)
			for range r.Intn(3) {
				told, all := bare.Held(), show(bare.Range(nil, nil))
				s := []step{syncs, flushes, merges}[r.Intn(3)]
				answers(t, what, s.do(db), api.OK)
				if r.Intn(5) == 0 {
					d.Crash(room)
					db = opens(t, what, d, seed%2 == 0)
				}
				if bare.Held() != told || show(db.Range(nil, nil)) != all {
					t.Fatalf("%s, %s: there is %s; must be %s", what, s, show(db.Range(nil, nil)), all)
				}
			}
			from, to := thrownBatch(r)[0].Key, thrownBatch(r)[0].Key
			if a, b := show(db.Range(from, to)), show(bare.Range(from, to)); a != b {
				t.Fatalf("%s: Range(%q, %q): %s; without Flush and Merge %s", what, from, to, a, b)
			}
			for _, k := range [][]byte{from, to, l[0].Key} {
				v, ok := db.Get(k)
				w, has := bare.Get(k)
				if string(v) != string(w) || ok != has {
					t.Fatalf("%s: Get(%q): %q, %t; without Flush and Merge %q, %t", what, k, v, ok, w, has)
				}
			}
		}
		counts(t, "P11.4: no Flush, no Merge", bare, 0, bare.Held())
	}
}
