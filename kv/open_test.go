package kv_test

import (
	"fmt"
	"strings"
	"testing"

	"marigraph/api"
	"marigraph/disk"
	"marigraph/kv"
	"marigraph/manifest"
)

func TestOpenOfNil(t *testing.T) {
	for _, each := range []bool{false, true} {
		if db, why := kv.Open(nil, each); db != nil || why != api.ErrArg {
			t.Errorf("P11.1: Open of nil: a database: %t, %d", db != nil, int(why))
		}
	}
}

func TestOpenOfEmptyDisk(t *testing.T) {
	for _, limit := range []int{0, 1, room} {
		d := fresh(t, limit)
		for range 3 {
			db := opens(t, "P11.1: an empty disk", d, false)
			tells(t, "P11.1: an empty disk", db, plain{})
			counts(t, "P11.1: an empty disk", db, 0, 0)
			getsNone(t, "P11.1: an empty disk", db, "")
			if len(db.Range([]byte("a"), []byte("b"))) > 0 || state(d) != `"w0"=(0)/0` {
				t.Errorf("P11.1: Open of an empty disk left %s", state(d))
			}
		}
	}
	d := powerless(fresh(t, room))
	refuses(t, "P11.1: an empty disk without power", d, api.ErrFull)
	d = fresh(t, room)
	d.Arm(1)
	if db, why := kv.Open(d, true); db != nil || why != api.ErrFull || names(d) != "" {
		t.Errorf("P11.1: power goes at the first Create: %d, files %s", int(why), names(d))
	}
	d.Crash(0)
	tells(t, "P11.1: power goes at the first Create", opens(t, "P11.1", d, false), plain{})
}

// TestOpenWithoutList: there are no tables then, whatever files there are, the log is w0, and a first table is t1.
func TestOpenWithoutList(t *testing.T) {
	d := fresh(t, room)
	fast(d, "w0", logged(batch(there("a", "1"), there("b", "1")), batch(gone("a"), there("c", "2"))))
	fast(d, "t1", built(there("z", "9")))
	fast(d, "w1", logged(batch(there("y", "9"))))
	db := opens(t, "P11.1: no list", d, false)
	tells(t, "P11.1: no list", db, plain{"b": "1", "c": "2"})
	counts(t, "P11.1: no list", db, 0, 3)
	if names(d) != "w0" {
		t.Errorf("P11.1: no list: files %s", names(d))
	}
	answers(t, "P11.3: a first Flush", db.Flush(), api.OK)
	b, _ := d.Read("list")
	if names(d) != "list t1 w2" || string(b) != string(listed(2, 3, 1)) {
		t.Errorf("P11.1: behind a first Flush: files %s, list %x", names(d), b)
	}
}

// base is a disk with a list of three tables, none in the order of its number, and a log over them.
func base(t *testing.T) (*disk.Disk, plain) {
	t.Helper()
	d := fresh(t, room)
	fast(d, "t4", built(there("a", "newest"), gone("b")))
	fast(d, "t9", built(there("a", "middle"), there("b", "middle"), there("c", "middle"), gone("d")))
	fast(d, "t2", built(there("a", "oldest"), there("b", "oldest"), there("c", "oldest"), there("d", "oldest"), there("e", "oldest")))
	fast(d, "w0", logged(batch(there("f", "1"), there("g", "1")), batch(gone("f"), there("h", "2")), batch(there("g", "3"))))
	fast(d, "list", listed(0, 30, 4, 9, 2))
	return d, plain{"a": "newest", "c": "middle", "e": "oldest", "g": "3", "h": "2"}
}

func TestOpenOfList(t *testing.T) {
	d, p := base(t)
	before := state(d)
	for _, each := range []bool{false, true} {
		db := opens(t, "P11.1", d, each)
		tells(t, "P11.1: tables in the list's order, batches in the log's", db, p)
		counts(t, "P11.1", db, 3, 3)
		if state(d) != before {
			t.Errorf("P11.1: Open left %s, must leave %s", state(d), before)
		}
	}
	lay := func() (*disk.Disk, *kv.DB) {
		d, _ := base(t)
		return d, nil
	}
	if n := spent(t, lay, func(d *disk.Disk, _ *kv.DB) { kv.Open(d, true) }); n != 0 {
		t.Errorf("P11.1: Open of what is whole makes %d calls that change the disk", n)
	}
	tells(t, "P11.1: no power", opens(t, "P11.1: no power", powerless(d), true), p)
	if state(d) != before {
		t.Errorf("P11.1: Open without power left %s", state(d))
	}
}

// TestOpenGoesOn: the list's numbers are the next files' numbers.
func TestOpenGoesOn(t *testing.T) {
	d, p := base(t)
	db := opens(t, "P11.1", d, false)
	answers(t, "P11.3: Flush", db.Flush(), api.OK)
	tells(t, "P11.3: behind a Flush", db, p)
	b, _ := d.Read("list")
	if names(d) != "list t2 t30 t4 t9 w31" || string(b) != string(listed(31, 32, 30, 4, 9, 2)) {
		t.Errorf("P11.3: behind a Flush: files %s, list %x", names(d), b)
	}
	answers(t, "P11.3: Merge", db.Merge(), api.OK)
	tells(t, "P11.3: behind a Merge", db, p)
	b, _ = d.Read("list")
	if names(d) != "list t32 w31" || string(b) != string(listed(31, 33, 32)) {
		t.Errorf("P11.3: behind a Merge: files %s, list %x", names(d), b)
	}
}

// TestOpenOfBadList: what manifest.Read refuses comes ahead of all else.
func TestOpenOfBadList(t *testing.T) {
	good := listed(0, 30, 4, 9, 2)
	for _, b := range [][]byte{nil, []byte("rubbish"), good[:len(good)-1], good[1:], append(good[:len(good):len(good)], 0), listed(0, 30, 4, 9, 2)[:6], record(nil), append(listed(0, 1), listed(0, 1)...)} {
		for _, synced := range []int{0, len(b)} {
			what := fmt.Sprintf("P11.1: the list %x", b)
			d, _ := base(t)
			file(d, "list", b, synced)
			refuses(t, what, d, api.ErrCorrupt)
			d.Remove("t9")
			fast(d, "w0", []byte("rubbish"))
			fast(d, "new", good)
			refuses(t, what+", nothing else well", d, api.ErrCorrupt)
			refuses(t, what+", no power", powerless(d), api.ErrCorrupt)
		}
	}
}

// TestOpenOfBadTable: each table, not there, or of bytes that no table.Build gave, with a log that is torn: nothing is changed.
func TestOpenOfBadTable(t *testing.T) {
	for _, name := range []string{"t4", "t9", "t2"} {
		d, _ := base(t)
		good, _ := d.Read(name)
		bad := [][]byte{nil, []byte("rubbish"), good[1:], append(good[:len(good):len(good)], 0), append(good[:len(good):len(good)], good...)}
		for n := range good {
			bad = append(bad, good[:n])
		}
		for _, b := range bad {
			d, _ := base(t)
			fast(d, name, b)
			d.Append("w0", []byte{0})
			fast(d, "t3", good)
			what := fmt.Sprintf("P11.1: %s is %x", name, b)
			refuses(t, what, d, api.ErrCorrupt)
			refuses(t, what+", no power", powerless(d), api.ErrCorrupt)
		}
		d, _ = base(t)
		d.Remove(name)
		d.Append("w0", []byte{0})
		fast(d, "new", good)
		refuses(t, "P11.1: no file "+name, d, api.ErrCorrupt)
		refuses(t, "P11.1: no file "+name+", no power", powerless(d), api.ErrCorrupt)
	}
}

// TestOpenOfBadLog: its refusals, behind those of the tables; nothing is swept away then.
func TestOpenOfBadLog(t *testing.T) {
	whole := logged(batch(there("f", "1")))
	for _, b := range [][]byte{[]byte("rubbish"), append(whole[:len(whole):len(whole)], "rubbish"...), record([]byte("no batch")), append(whole[:len(whole):len(whole)], record(nil)...), append([]byte{1}, whole[1:]...)} {
		d, _ := base(t)
		fast(d, "w0", b)
		fast(d, "t3", []byte("stray"))
		refuses(t, fmt.Sprintf("P11.1: the log %x", b), d, api.ErrCorrupt)
		refuses(t, fmt.Sprintf("P11.1: the log %x, no power", b), powerless(d), api.ErrCorrupt)
	}
	d, p := base(t)
	d.Remove("w0")
	fast(d, "t3", []byte("stray"))
	refuses(t, "P11.1: no log, no power", powerless(d), api.ErrFull)
	d.Crash(0)
	db := opens(t, "P11.1: no log", d, false)
	tells(t, "P11.1: no log", db, plain{"a": p["a"], "c": p["c"], "e": p["e"]})
	counts(t, "P11.1: no log", db, 3, 0)
	if d.Synced("w0") != 0 || names(d) != "list t2 t4 t9 w0" {
		t.Errorf("P11.1: no log: files %s", names(d))
	}
}

// TestOpenOfTornLog, cut off at each place, on a disk with power and without.
func TestOpenOfTornLog(t *testing.T) {
	l := [][]api.Entry{batch(there("f", "1"), there("g", "1")), batch(gone("f"), there("h", "2")), batch(there("g", "3"))}
	whole := logged(l...)
	for n := range whole {
		had := 0
		for had < len(l) && len(logged(l[:had+1]...)) <= n {
			had++
		}
		want := plain{"a": "newest", "c": "middle", "e": "oldest"}
		for _, b := range l[:had] {
			want = want.with(b...)
		}
		d, _ := base(t)
		fast(d, "w0", whole[:n])
		torn := len(logged(l[:had]...)) < n
		if torn {
			refuses(t, fmt.Sprintf("P11.1: the log cut off at %d, no power", n), powerless(d), api.ErrFull)
			d.Crash(0)
		}
		tells(t, fmt.Sprintf("P11.1: the log cut off at %d", n), opens(t, "P11.1", d, true), want)
		if b, _ := d.Read("w0"); len(b) != len(logged(l[:had]...)) || d.Synced("w0") != len(b) {
			t.Errorf("P11.1: the log cut off at %d: %d bytes are left", n, len(b))
		}
	}
}

// strays are names of files that are Removed, near are such as are none of the database's.
func strays() []string {
	return []string{"new", "t", "t0", "t02", "t1", "t29", "t3", "t30", "t4 ", "t44", "t9x", "tables", "text", "t\x00", "w", "w00", "w1", "w30", "wal", "w0 ", "words", "t" + long(31)}
}

func near() []string {
	return []string{" t1", "T4", "W0", "a", "List", "lis", "list ", "lists", "ne", "New", "new ", "new1", "news", "x", "\xff", "1", "\x00", "mt", "s", "u", "v"}
}

func TestOpenSweeps(t *testing.T) {
	d, p := base(t)
	for _, name := range near() {
		file(d, name, []byte("beside"), 3)
	}
	before := state(d)
	for i, name := range strays() {
		file(d, name, []byte(long(i)), i/2)
	}
	db := opens(t, "P11.1", d, false)
	tells(t, "P11.1: strays", db, p)
	if state(d) != before {
		t.Errorf("P11.1: Open left %s, must leave %s", state(d), before)
	}
	answers(t, "P11.3: Flush", db.Flush(), api.OK)
	for _, name := range near() {
		if b, _ := d.Read(name); string(b) != "beside" || d.Synced(name) != 3 {
			t.Errorf("P11.1: the file %q is %q", name, b)
		}
	}
	for _, name := range strays() {
		d, _ := base(t)
		before := state(d)
		fast(d, name, built(there("z", "9")))
		opens(t, "P11.1: "+name, d, false)
		if state(d) != before {
			t.Errorf("P11.1: Open leaves the file %q", name)
		}
	}
}

// TestOpenSweepsWithoutPower: a Remove's refusal does not matter, whichever Remove it is.
func TestOpenSweepsWithoutPower(t *testing.T) {
	for n := 1; n <= len(strays())+1; n++ {
		d, p := base(t)
		for i, name := range strays() {
			file(d, name, []byte(long(i)), i/2)
		}
		d.Arm(n)
		db := opens(t, fmt.Sprint("P11.1: power goes at Remove ", n), d, false)
		tells(t, fmt.Sprint("P11.1: power goes at Remove ", n), db, p)
		if left := len(d.Names()) - 5; left != len(strays())+1-n || d.Down() != (left > 0) {
			t.Errorf("P11.1: power goes at Remove %d: files %s", n, names(d))
		}
		d.Crash(0)
		tells(t, "P11.1: opened again", opens(t, "P11.1: opened again", d, false), p)
		if names(d) != "list t2 t4 t9 w0" {
			t.Errorf("P11.1: opened again: files %s", names(d))
		}
	}
}

// TestOpenAtEachCall: a disk on which Open has to Cut and to Remove, or to Create and to Remove, while power goes at each of these calls.
func TestOpenAtEachCall(t *testing.T) {
	for _, log := range [][]byte{nil, append(logged(batch(there("f", "1"))), 0, 0, 9)} {
		for n := 1; n <= 4; n++ {
			d, _ := base(t)
			want := plain{"a": "newest", "c": "middle", "e": "oldest"}
			d.Remove("w0")
			if len(log) > 0 {
				fast(d, "w0", log)
				want["f"] = "1"
			}
			fast(d, "new", listed(0, 1))
			fast(d, "w1", []byte("stray"))
			before := state(d)
			d.Arm(n)
			db, why := kv.Open(d, false)
			what := fmt.Sprintf("P11.1: a log of %d bytes, power goes at call %d", len(log), n)
			if n == 1 && (db != nil || why != api.ErrFull || state(d) != before) || n > 1 && (db == nil || why != api.OK) {
				t.Errorf("%s: %d, left %s", what, int(why), state(d))
			}
			if n > 1 {
				tells(t, what, db, want)
			}
			d.Crash(0)
			tells(t, what+", opened again", opens(t, what, d, false), want)
			if strings.Join(d.Names(), " ") != "list t2 t4 t9 w0" {
				t.Errorf("%s: files %s", what, names(d))
			}
		}
	}
}

// TestOpenOfManyTables: as many as a list has.
func TestOpenOfManyTables(t *testing.T) {
	d := fresh(t, room)
	p := plain{}
	var numbers []int
	for n := range 255 {
		p[fmt.Sprintf("k%d", n%200)] = fmt.Sprint(n)
		fast(d, fmt.Sprint("t", n), built(there(fmt.Sprintf("k%d", n%200), fmt.Sprint(n))))
		numbers = append([]int{n}, numbers...)
	}
	answers(t, "laying down", manifest.Write(d, manifest.List{Tables: numbers, Wal: top - 1, Next: top}), api.OK)
	db := opens(t, "P11.1: 255 tables", d, true)
	tells(t, "P11.1: 255 tables", db, p)
	counts(t, "P11.1: 255 tables", db, 255, 0)
	if _, ok := d.Read(fmt.Sprint("w", top-1)); !ok {
		t.Error("P11.1: the log of the greatest number is not there")
	}
}
