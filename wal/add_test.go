package wal_test

import (
	"fmt"
	"strings"
	"testing"

	"marigraph/api"
	"marigraph/disk"
	"marigraph/wal"
)

// atMost is a batch of just so many bytes as a record may have.
func atMost(t *testing.T) []api.Entry {
	t.Helper()
	l := times(1<<8, sized(1, 4087, false))
	left := 1<<20 - len(body(l))
	l = append(l, sized(1, left-5, false))
	if len(body(l)) != 1<<20 {
		t.Fatalf("a batch of %d bytes", len(body(l)))
	}
	return l
}

// taken fails unless Add takes the batch: one Append of its record, and one more in Count.
func taken(t *testing.T, what string, batch []api.Entry) {
	t.Helper()
	first := some()[:2]
	b := row(first)
	make := func() *disk.Disk { return holding(t, b, 3) }
	d := make()
	l := opens(t, what, d, "w", first)
	if why := l.Add(batch...); why != api.OK || l.Count() != 3 {
		t.Errorf("P5.2: Add of %s: %v, Count %d", what, why, l.Count())
	}
	if want := state(holding(t, append(b, record(body(batch))...), 3)); state(d) != want {
		t.Errorf("P5.2: Add of %s left %.200s, must leave %.200s", what, state(d), want)
	}
	n := spent(make, func(d *disk.Disk) {
		l, _, _ := wal.Open(d, "w")
		l.Add(batch...)
	})
	if n != 1 {
		t.Errorf("P5.2: Add of %s makes %d calls that change the disk", what, n)
	}
}

// asBack is what Open must tell of a batch: the Value of one that is Gone does not come back.
func asBack(batch []api.Entry) []api.Entry {
	var out []api.Entry
	for _, e := range batch {
		if e.Gone {
			e.Value = nil
		}
		out = append(out, e)
	}
	return out
}

func TestAdd(t *testing.T) {
	for _, c := range []struct {
		what  string
		batch []api.Entry
	}{
		{"none", nil}, {"an empty list", []api.Entry{}}, {"one", []api.Entry{there("k", "v")}}, {"one without a value", []api.Entry{there("k", "")}}, {"one that is Gone", []api.Entry{gone("k")}},
		{"several, not rising", []api.Entry{there("b", "1"), there("a", "2"), gone("b"), there("b", "3")}},
		{"a key and a value of the most bytes", []api.Entry{sized(api.MaxKey, api.MaxValue, false)}},
		{"Gone ones whose Values are too long", []api.Entry{sized(api.MaxKey, api.MaxValue+1, true), sized(1, 1<<20+1, true)}},
		{"MaxOps", times(api.MaxOps, there("k", "v"))}, {"MaxOps Gone ones", times(api.MaxOps, gone("key"))}, {"a record's most bytes", atMost(t)},
	} {
		taken(t, c.what, c.batch)
		d := fresh(t, room)
		l := opens(t, c.what, d, "w", nil)
		l.Add(there("ahead", "of it"))
		l.Add(c.batch...)
		l.Add(there("behind", "it"))
		opens(t, "P5.2: Add of "+c.what+", and Open", d, "w", [][]api.Entry{{there("ahead", "of it")}, asBack(c.batch), {there("behind", "it")}})
	}
}

func TestAddOfTheDocument(t *testing.T) {
	d := fresh(t, 99)
	l := opens(t, "P5.2", d, "w", nil)
	l.Add()
	l.Add(there("c", "c!"), gone("zz"))
	want := "\x00\x00\x02\xff\xff\xfd\x00\x00" + "\x00\x00\x0d\xff\xff\xf2\x00\x02\x01\x01c\x00\x02c!\x00\x02zz"
	if b, _ := d.Read("w"); string(b) != want {
		t.Errorf("P5.2: %x, must be %x", b, want)
	}
}

// notTaken fails unless Add refuses the batch with e and leaves the log as it was, so that what is Added behind it is there.
func notTaken(t *testing.T, what string, batch []api.Entry, e api.Errno) {
	t.Helper()
	first := some()[:3]
	d := holding(t, row(first), 3)
	l := opens(t, what, d, "w", first)
	before := state(d)
	d.Arm(1)
	if why := l.Add(batch...); why != e || l.Count() != 3 || state(d) != before || d.Down() {
		t.Errorf("P5.2: Add of %s: %v, Count %d, changed: %t, power gone: %t", what, why, l.Count(), state(d) != before, d.Down())
	}
	d.Arm(0)
	l.Add(there("k", "v"))
	opens(t, "P5.2: behind Add of "+what, d, "w", append(first, []api.Entry{there("k", "v")}))
	if why := l.Add(batch...); why != e || l.Count() != 4 {
		t.Errorf("P5.2: Add of %s again: %v, Count %d", what, why, l.Count())
	}
	if why := l.Sync(); why != api.OK {
		t.Errorf("P5.2: Sync behind Add of %s: %v", what, why)
	}
	powerless(d)
	if why := l.Add(batch...); why != e || l.Count() != 4 {
		t.Errorf("P5.2: Add of %s without power: %v, Count %d", what, why, l.Count())
	}
	d.Crash(0)
	d.Remove("w")
	l = opens(t, what, d, "w", nil)
	d.Remove("w")
	if why := l.Add(batch...); why != e || l.Count() != 0 {
		t.Errorf("P5.2: Add of %s without a file: %v, Count %d", what, why, l.Count())
	}
}

func TestAddOfTooMuch(t *testing.T) {
	well := there("k", "v")
	for i, bad := range []api.Entry{
		{}, {Gone: true}, {Key: []byte{}, Value: []byte("v")}, {Value: []byte("v"), Gone: true},
		sized(api.MaxKey+1, 1, false), sized(api.MaxKey+1, 0, true), sized(1, api.MaxValue+1, false), sized(api.MaxKey, 65536, false),
	} {
		for j, batch := range [][]api.Entry{{bad}, {bad, well}, {well, bad}, {well, bad, well}} {
			notTaken(t, fmt.Sprint("a wrong entry ", i, ", ", j), batch, api.ErrLong)
		}
	}
	notTaken(t, "MaxOps and one", times(api.MaxOps+1, well), api.ErrLong)
	notTaken(t, "MaxOps and one, Gone", times(api.MaxOps+1, gone("k")), api.ErrLong)
	notTaken(t, "65536", times(65536, gone("k")), api.ErrLong)
	notTaken(t, "more than a record's most bytes", append(atMost(t), gone("k")), api.ErrLong)
}

func TestAddAndRoom(t *testing.T) {
	first, batch := []api.Entry{there("a", "1")}, []api.Entry{there("key", "value"), gone("a")}
	small, great := len(row([][]api.Entry{first})), len(row([][]api.Entry{batch}))
	d := fresh(t, small+great)
	l := opens(t, "P5.2: room", d, "w", nil)
	if l.Add(first...) != api.OK || l.Add(batch...) != api.OK || l.Count() != 2 || l.Add() != api.ErrFull || l.Count() != 2 {
		t.Errorf("P5.2: just room enough: Count %d", l.Count())
	}
	opens(t, "P5.2: just room enough", d, "w", [][]api.Entry{first, batch})
	d = fresh(t, small+great-1)
	l = opens(t, "P5.2: room", d, "w", nil)
	l.Add(first...)
	before := state(d)
	if why := l.Add(batch...); why != api.ErrFull || l.Count() != 1 || state(d) != before || d.Down() {
		t.Errorf("P5.2: one byte too little: %v, Count %d, %s", why, l.Count(), state(d))
	}
	opens(t, "P5.2: one byte too little", d, "w", [][]api.Entry{first})
	if l.Add() != api.OK || l.Count() != 2 || l.Sync() != api.OK {
		t.Error("P5.2: Add of less behind one that had no room")
	}
	opens(t, "P5.2: less behind one that had no room", d, "w", [][]api.Entry{first, nil})
	d.Grow(room)
	if l.Add(batch...) != api.OK || l.Count() != 3 {
		t.Error("P5.2: Add with room again")
	}
	opens(t, "P5.2: room again", d, "w", [][]api.Entry{first, nil, batch})
	d = fresh(t, 7)
	l = opens(t, "P5.2: room", d, "w", nil)
	if l.Add() != api.ErrFull || l.Count() != 0 || state(d) != `"w"=/0` {
		t.Error("P5.2: a record of none has eight bytes")
	}
}

func TestAddAndPower(t *testing.T) {
	first := some()[:2]
	d := holding(t, row(first), 3)
	l := opens(t, "P5.2: power", d, "w", first)
	d.Arm(2)
	if l.Add(there("a", "1")) != api.OK || l.Count() != 3 || d.Down() {
		t.Error("P5.2: Add ahead of power that goes")
	}
	if l.Add(there("b", "2")) != api.ErrFull || l.Count() != 3 || !d.Down() {
		t.Error("P5.2: Add at which power goes")
	}
	before := state(d)
	for range 2 {
		if l.Add(there("c", "3")) != api.ErrFull || l.Add() != api.ErrFull || l.Sync() != api.ErrFull || l.Count() != 3 || state(d) != before {
			t.Errorf("P5.2: Add and Sync without power: Count %d, %s", l.Count(), state(d))
		}
	}
	if l.Name() != "w" {
		t.Errorf("P5.2: Name without power: %q", l.Name())
	}
	d.Crash(1 << 20)
	opens(t, "P5.3: power went at Add, all its bytes are there", d, "w", append(first, []api.Entry{there("a", "1")}, []api.Entry{there("b", "2")}))
}

func TestAddAndSyncWithoutFile(t *testing.T) {
	first := some()[:2]
	d := holding(t, row(first), 3)
	l := opens(t, "P5.2: removed", d, "w", first)
	d.Remove("w")
	before := state(d)
	d.Arm(1)
	if l.Add(there("a", "1")) != api.ErrNone || l.Add() != api.ErrNone || l.Sync() != api.ErrNone || l.Count() != 2 || l.Name() != "w" || state(d) != before || d.Down() {
		t.Errorf("P5.2: no file: Count %d, %s", l.Count(), state(d))
	}
}

func TestSync(t *testing.T) {
	first := some()
	b := row(first)
	make := func() *disk.Disk { return holding(t, b, 3) }
	d := make()
	l := opens(t, "P5.2: Sync", d, "w", first)
	before := state(d)
	d.Arm(1)
	if l.Sync() != api.ErrFull || state(d) != before || !d.Down() || l.Sync() != api.ErrFull || state(d) != before {
		t.Errorf("P5.2: Sync at which power goes: %s", state(d))
	}
	d = make()
	l = opens(t, "P5.2: Sync", d, "w", first)
	for range 2 {
		if why := l.Sync(); why != api.OK || state(d) != state(holding(t, b, len(b))) || l.Count() != len(first) {
			t.Errorf("P5.2: Sync: %v, Count %d, %s", why, l.Count(), state(d))
		}
	}
	l.Add(there("a", "1"))
	if d.Synced("w") != len(b) {
		t.Error("P5.2: Add syncs")
	}
	if n := spent(make, func(d *disk.Disk) {
		l, _, _ := wal.Open(d, "w")
		l.Sync()
	}); n != 1 {
		t.Errorf("P5.2: Sync makes %d calls that change the disk", n)
	}
}

func TestNameAndCount(t *testing.T) {
	for _, name := range []string{"w", "\x00", "\xff\n", "w 1", strings.Repeat("n", 32)} {
		d := fresh(t, 999)
		l := opens(t, "P5.2: Name", d, name, nil)
		for n := range 4 {
			if l.Count() != n || l.Name() != name {
				t.Errorf("P5.2: Count %d, must be %d; Name %q, must be %q", l.Count(), n, l.Name(), name)
			}
			l.Add(there("a", "1"))
			l.Add(there("", "1"))
			l.Sync()
		}
		l = opens(t, "P5.2: Name", d, name, [][]api.Entry{{there("a", "1")}, {there("a", "1")}, {there("a", "1")}, {there("a", "1")}})
		if l.Add() != api.OK || l.Add(gone("")) != api.ErrLong || l.Count() != 5 {
			t.Errorf("P5.2: Count behind Open and Add: %d", l.Count())
		}
	}
}

func TestTwoLogs(t *testing.T) {
	d := fresh(t, 999)
	one := opens(t, "P5.1: two logs", d, "one", nil)
	other := opens(t, "P5.1: two logs", d, "other", nil)
	one.Add(there("a", "1"))
	other.Add(there("b", "2"))
	one.Add(there("c", "3"))
	one.Sync()
	other.Add(there("d", "4"))
	if one.Count() != 2 || other.Count() != 2 || one.Name() != "one" || other.Name() != "other" || d.Synced("other") != 0 {
		t.Errorf("P5.2: two logs: %d, %d, %s", one.Count(), other.Count(), state(d))
	}
	d.Crash(3)
	opens(t, "P5.3: one of two logs", d, "one", [][]api.Entry{{there("a", "1")}, {there("c", "3")}})
	opens(t, "P5.3: the other log", d, "other", nil)
}
