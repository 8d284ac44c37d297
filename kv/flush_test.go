package kv_test

import (
	"fmt"
	"slices"
	"testing"

	"marigraph/api"
	"marigraph/disk"
	"marigraph/kv"
	"marigraph/manifest"
)

// asked is all that the calls of a database tell that only ask.
func asked(db *kv.DB) string {
	return fmt.Sprint(show(db.Range(nil, nil)), db.Tables(), db.Held())
}

// idle fails unless a call answers OK, makes no call that changes the disk, and changes nothing, with power and without.
func idle(t *testing.T, what string, lay func() (*disk.Disk, *kv.DB), do func(db *kv.DB) api.Errno) {
	t.Helper()
	if n := spent(t, lay, func(_ *disk.Disk, db *kv.DB) { do(db) }); n != 0 {
		t.Errorf("%s: %d calls that change the disk", what, n)
	}
	for _, power := range []bool{true, false} {
		d, db := lay()
		if !power {
			powerless(d)
		}
		before, told := state(d), asked(db)
		answers(t, what, do(db), api.OK)
		if state(d) != before || asked(db) != told {
			t.Errorf("%s: power %t: left %s and %s", what, power, state(d), asked(db))
		}
	}
}

func TestFlushOfNothing(t *testing.T) {
	for what, steps := range map[string][]step{
		"a new one": nil, "behind a Flush": {put(there("a", "1")), flushes}, "behind a Merge": {put(there("a", "1")), flushes, merges},
		"behind a Sync": {put(there("a", "1")), flushes, syncs}, "all Gone": {put(gone("a")), flushes, merges},
	} {
		idle(t, "P11.3: Flush of nothing, "+what, func() (*disk.Disk, *kv.DB) { return having(t, steps...) }, (*kv.DB).Flush)
	}
	idle(t, "P11.3: Flush of nothing, opened again", func() (*disk.Disk, *kv.DB) {
		d, _ := having(t, put(there("a", "1")), flushes)
		return d, opens(t, "P11.1", d, true)
	}, (*kv.DB).Flush)
}

// TestFlush: what it leaves on the disk, byte for byte, and what is told then.
func TestFlush(t *testing.T) {
	held := batch(there("a", "2"), gone("b"), there("c", ""), gone("never"))
	d, db := having(t, put(there("c", "1"), there("a", "1")), put(there("b", "1")), put(held...))
	p := plain{"a": "2", "c": ""}
	tells(t, "P11.3: ahead of Flush", db, p)
	counts(t, "P11.3: ahead of Flush", db, 0, 4)
	answers(t, "P11.3: Flush", db.Flush(), api.OK)
	want := fresh(t, room)
	fast(want, "t1", built(held...))
	fast(want, "w2", nil)
	fast(want, "list", listed(2, 3, 1))
	if state(d) != state(want) {
		t.Errorf("P11.3: Flush left %s, must leave %s", state(d), state(want))
	}
	tells(t, "P11.3: Flush", db, p)
	counts(t, "P11.3: Flush", db, 1, 0)

	answers(t, "P11.2: Put behind Flush", db.Put(gone("a"), there("d", "3")), api.OK)
	p = p.with(gone("a"), there("d", "3"))
	want.Append("w2", logged(batch(gone("a"), there("d", "3"))))
	if state(d) != state(want) {
		t.Errorf("P11.3: Put behind Flush left %s, must leave %s", state(d), state(want))
	}
	tells(t, "P11.3: Put behind Flush", db, p)
	counts(t, "P11.3: Put behind Flush", db, 1, 2)
	tells(t, "P11.1: Put behind Flush", opens(t, "P11.1", d, false), p)

	db = opens(t, "P11.1", d, false)
	answers(t, "P11.3: Flush again", db.Flush(), api.OK)
	want = fresh(t, room)
	fast(want, "t1", built(held...))
	fast(want, "t3", built(gone("a"), there("d", "3")))
	fast(want, "w4", nil)
	fast(want, "list", listed(4, 5, 3, 1))
	if state(d) != state(want) {
		t.Errorf("P11.3: Flush again left %s, must leave %s", state(d), state(want))
	}
	tells(t, "P11.3: Flush again", db, p)
	counts(t, "P11.3: Flush again", db, 2, 0)
	d.Crash(0)
	tells(t, "P11.4: behind Flush", opens(t, "P11.1", d, false), p)
}

// pasts are databases of each kind, some with nothing to Flush or to Merge.
func pasts() map[string][]step {
	a, b, c := put(there("a", "1"), there("b", "1"), there("c", "1")), put(there("b", "2"), gone("a")), put(gone("c"), there("d", "3"))
	all := put(gone("a"), gone("b"), gone("c"), gone("d"))
	return map[string][]step{
		"new":               nil,
		"held":              {a},
		"held, synced":      {a, syncs, b},
		"table":             {a, flushes},
		"over a table":      {a, flushes, b},
		"tables":            {a, flushes, b, flushes, c, flushes},
		"over tables":       {a, flushes, b, flushes, syncs, c, b},
		"merged":            {a, flushes, b, flushes, merges, c},
		"all Gone":          {a, flushes, all, flushes, put(there("e", "4"))},
		"Gone over tables":  {a, flushes, b, flushes, all},
		"merged to nothing": {a, flushes, all, flushes, merges, c},
	}
}

// both are a database and the model of it, behind the same steps.
func both(t *testing.T, what string, steps []step) *twins {
	t.Helper()
	w := newTwins(t, room, false)
	for _, s := range steps {
		if why := w.do(t, what, s); why != api.OK {
			t.Fatalf("%s: %s: %d", what, s, int(why))
		}
	}
	return w
}

// TestFlushAndMergeAtEachCall: power goes at each of their calls, which are made in the chapter's order; behind it there is what was there.
func TestFlushAndMergeAtEachCall(t *testing.T) {
	for past, steps := range pasts() {
		for _, s := range []step{flushes, merges} {
			for n := 1; n <= 14; n++ {
				for _, keep := range []int{0, 1, 9, room} {
					what := fmt.Sprintf("P11.3: %s, power goes at call %d, Crash(%d)", past, n, keep)
					w := both(t, what, slices.Concat(steps, []step{syncs}))
					p := w.m.plain()
					w.both(func(d *disk.Disk) { d.Arm(n) })
					w.do(t, what, s)
					for _, more := range []step{put(there("a", "no power")), flushes, merges, syncs} {
						if w.d.Down() {
							w.do(t, what+", no power", more)
						}
					}
					tells(t, what, w.db, p)
					w.both(func(d *disk.Disk) { d.Crash(keep) })
					w.open(t, what)
					tells(t, what+", opened again", w.db, p)
					w.do(t, what, put(there("more", "1")))
					w.do(t, what, flushes)
					w.do(t, what, merges)
					tells(t, what+", and more", w.db, p.with(there("more", "1")))
				}
			}
		}
	}
}

// TestFlushAndMergeAndRoom: on a disk that has room for just so many bytes more. What is refused can not be seen, and goes on when there is room.
func TestFlushAndMergeAndRoom(t *testing.T) {
	for past, steps := range pasts() {
		for _, s := range []step{flushes, merges} {
			for left := range 120 {
				what := fmt.Sprintf("P11.3: %s, room for %d bytes", past, left)
				w := both(t, what, steps)
				p, told := w.m.plain(), asked(w.db)
				w.both(func(d *disk.Disk) { d.Grow(d.Used() + left) })
				if w.do(t, what, s) == api.OK {
					tells(t, what, w.db, p)
					continue
				}
				if asked(w.db) != told || w.d.Down() {
					t.Errorf("%s: behind a refusal: %s; must be %s", what, asked(w.db), told)
				}
				w.do(t, what+", again", s)
				w.both(func(d *disk.Disk) { d.Grow(room) })
				w.do(t, what, put(there("more", "1")))
				if w.do(t, what+", then room", s) != api.OK || w.do(t, what, flushes) != api.OK || w.do(t, what, merges) != api.OK {
					t.Errorf("%s: refused where there is room", what)
				}
				tells(t, what+", then room", w.db, p.with(there("more", "1")))
				w.open(t, what)
			}
		}
	}
}

// TestRefusedFlushLeavesTheLog: what is Put behind a refused Flush goes into the old log, and is there behind a crash.
func TestRefusedFlushLeavesTheLog(t *testing.T) {
	d, db := having(t, put(there("a", "1")), flushes, put(there("b", "2")))
	need := len(built(there("b", "2"))) + len(listed(4, 5, 3, 1))
	d.Grow(d.Used() + need - 1)
	answers(t, "P11.3: Flush without room", db.Flush(), api.ErrFull)
	if b, _ := d.Read("list"); string(b) != string(listed(2, 3, 1)) {
		t.Errorf("P11.3: a refused Flush left the list %x", b)
	}
	d.Grow(room)
	answers(t, "P11.2: Put behind a refused Flush", db.Put(there("c", "3")), api.OK)
	answers(t, "P11.2: Sync behind a refused Flush", db.Sync(), api.OK)
	if b, _ := d.Read("w2"); string(b) != string(logged(batch(there("b", "2")), batch(there("c", "3")))) || d.Synced("w2") != len(b) {
		t.Errorf("P11.3: behind a refused Flush the log is %x", b)
	}
	d.Crash(0)
	db = opens(t, "P11.4", d, false)
	tells(t, "P11.4: behind a refused Flush and a crash", db, plain{"a": "1", "b": "2", "c": "3"})
	counts(t, "P11.4: behind a refused Flush and a crash", db, 1, 2)
}

// TestFlushOverStale: files of the numbers that come next make no difference, whatever they have.
func TestFlushOverStale(t *testing.T) {
	for _, stale := range [][]byte{nil, []byte("rubbish"), built(there("z", "9")), logged(batch(there("z", "9"))), listed(0, 1), []byte(long(300))} {
		for _, s := range []step{flushes, merges} {
			w := both(t, "P11.3: stale files", []step{put(there("a", "1")), flushes, put(there("b", "2"), gone("a"))})
			for i, name := range []string{"t3", "w4", "new"} {
				w.both(func(d *disk.Disk) { file(d, name, stale, len(stale)*i/2) })
			}
			if why := w.do(t, "P11.3: stale files", s); why != api.OK {
				t.Errorf("P11.3: stale files, %s: %d", s, int(why))
			}
			w.do(t, "P11.3: stale files", put(there("c", "3")))
			p := plain{"b": "2", "c": "3"}
			tells(t, "P11.3: stale files", w.db, p)
			w.both(func(d *disk.Disk) { d.Crash(room) })
			w.open(t, "P11.3: stale files")
			tells(t, "P11.3: stale files, opened again", w.db, p)
		}
	}
}

// TestGreatestNumberOfTables: 255 tables are as many as a list has; a Flush more is refused and can not be seen, a Merge makes room.
func TestGreatestNumberOfTables(t *testing.T) {
	d, db := having(t)
	p := plain{}
	for n := range 255 {
		e := there(fmt.Sprint("k", n%100), fmt.Sprint(n))
		answers(t, "P11.2: Put", db.Put(e), api.OK)
		answers(t, fmt.Sprint("P11.3: Flush ", n), db.Flush(), api.OK)
		p = p.with(e)
	}
	tells(t, "P11.3: 255 tables", db, p)
	counts(t, "P11.3: 255 tables", db, 255, 0)
	answers(t, "P11.3: Flush of nothing", db.Flush(), api.OK)
	answers(t, "P11.2: Put", db.Put(there("more", "1"), gone("k7")), api.OK)
	p = p.with(there("more", "1"), gone("k7"))
	for range 3 {
		list, _ := d.Read("list")
		answers(t, "P11.3: a Flush more", db.Flush(), api.ErrArg)
		tells(t, "P11.3: a Flush more", db, p)
		counts(t, "P11.3: a Flush more", db, 255, 2)
		if now, _ := d.Read("list"); string(now) != string(list) {
			t.Error("P11.3: a refused Flush changed the list")
		}
		answers(t, "P11.2: Put", db.Put(there("more", "2")), api.OK)
		p = p.with(there("more", "2"))
		d.Crash(room)
		db = opens(t, "P11.4", d, false)
		tells(t, "P11.4: a Flush more, opened again", db, p)
	}
	d.Grow(d.Used() + 3)
	answers(t, "P11.3: a Flush more, without room: its refusal is the first", db.Flush(), api.ErrFull)
	d.Grow(room)
	answers(t, "P11.3: Merge of 255 tables", db.Merge(), api.OK)
	tells(t, "P11.3: Merge of 255 tables", db, p)
	counts(t, "P11.3: Merge of 255 tables", db, 1, 2)
	answers(t, "P11.3: Flush behind it", db.Flush(), api.OK)
	tells(t, "P11.3: Flush behind it", db, p)
	counts(t, "P11.3: Flush behind it", db, 2, 0)
	if names(d) != "list t511 t512 w513" {
		t.Errorf("P11.3: Flush behind it: files %s", names(d))
	}
}

// numberedNext is a database with one table, whose next file's number is next.
func numberedNext(t *testing.T, next int) (*disk.Disk, *kv.DB) {
	t.Helper()
	d := fresh(t, room)
	fast(d, "t5", built(there("a", "1"), there("b", "1")))
	answers(t, "laying down", manifest.Write(d, manifest.List{Tables: []int{5}, Wal: 4, Next: next}), api.OK)
	db := opens(t, "laying down", d, false)
	answers(t, "laying down", db.Put(there("b", "2"), gone("a")), api.OK)
	return d, db
}

// TestGreatestNumber: where a list would have to tell a number above 2^24 - 1, it is refused, and the call with it.
func TestGreatestNumber(t *testing.T) {
	p := plain{"b": "2"}
	for next, e := range map[int][2]api.Errno{top - 2: {api.OK, api.OK}, top - 1: {api.ErrArg, api.OK}, top: {api.ErrArg, api.ErrArg}} {
		for i, s := range []step{flushes, merges} {
			what := fmt.Sprintf("P11.3: Next %d, %s", next, s)
			d, db := numberedNext(t, next)
			told := asked(db)
			answers(t, what, s.do(db), e[i])
			tells(t, what, db, p)
			if e[i] != api.OK && asked(db) != told {
				t.Errorf("%s: %s behind a refusal; must be %s", what, asked(db), told)
			}
			answers(t, what, db.Put(there("c", "3")), api.OK)
			d.Crash(room)
			tells(t, what+", opened again", opens(t, what, d, false), p.with(there("c", "3")))
		}
	}
}

// TestGreatestTable: a table has 65535 entries at most: a Flush of more is refused and can not be seen.
func TestGreatestTable(t *testing.T) {
	d := fresh(t, 1<<23)
	db := opens(t, "P11.3", d, false)
	for n := 0; n < 65535; n += 8000 {
		answers(t, "P11.2: Put", db.Put(numbered(n, min(8000, 65535-n))...), api.OK)
	}
	answers(t, "P11.3: Flush of 65535", db.Flush(), api.OK)
	counts(t, "P11.3: Flush of 65535", db, 1, 0)
	answers(t, "P11.3: Merge of 65535", db.Merge(), api.OK)
	counts(t, "P11.3: Merge of 65535", db, 1, 0)
	if n := len(db.Range(nil, nil)); n != 65535 {
		t.Errorf("P11.3: Flush of 65535: there are %d", n)
	}
	answers(t, "P11.2: Put of one more", db.Put(numbered(65535, 1)...), api.OK)
	answers(t, "P11.3: Flush of one", db.Flush(), api.OK)
	before, _ := d.Read("list")
	answers(t, "P11.3: Merge of 65536", db.Merge(), api.ErrArg)
	counts(t, "P11.3: Merge of 65536", db, 2, 0)
	if now, _ := d.Read("list"); string(now) != string(before) || len(db.Range(nil, nil)) != 65536 {
		t.Errorf("P11.3: Merge of 65536: there are %d, the list is %x", len(db.Range(nil, nil)), now)
	}
	answers(t, "P11.2: Put of a Gone one", db.Put(gone("\x00\x00\x07")), api.OK)
	answers(t, "P11.3: Flush of a Gone one", db.Flush(), api.OK)
	answers(t, "P11.3: Merge of 65536, one of them Gone", db.Merge(), api.OK)
	counts(t, "P11.3: Merge of 65536, one of them Gone", db, 1, 0)
	getsNone(t, "P11.3: Merge of 65536, one of them Gone", db, "\x00\x00\x07")
	for n := 0; n < 65536; n += 8000 {
		answers(t, "P11.2: Put", db.Put(numbered(n, min(8000, 65536-n))...), api.OK)
	}
	answers(t, "P11.3: Flush of 65536", db.Flush(), api.ErrArg)
	counts(t, "P11.3: Flush of 65536", db, 1, 65536)
	powerless(d)
	answers(t, "P11.3: Flush of 65536 without power: Create's refusal is the first", db.Flush(), api.ErrFull)
	answers(t, "P11.3: Merge without power", db.Merge(), api.ErrFull)
}
