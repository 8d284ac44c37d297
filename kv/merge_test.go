package kv_test

import (
	"fmt"
	"testing"

	"marigraph/api"
	"marigraph/disk"
	"marigraph/kv"
	"marigraph/table"
)

func TestMergeOfNothing(t *testing.T) {
	for what, steps := range map[string][]step{
		"a new one": nil, "Held alone": {put(there("a", "1"), gone("b"))}, "merged to nothing": {put(gone("a")), flushes, merges}, "merged to nothing, then Held": {put(gone("a")), flushes, merges, put(there("a", "2"))},
	} {
		idle(t, "P11.3: Merge of nothing, "+what, func() (*disk.Disk, *kv.DB) { return having(t, steps...) }, (*kv.DB).Merge)
	}
}

// tableOf is what a table's file tells.
func tableOf(t *testing.T, d *disk.Disk, name string) string {
	t.Helper()
	b, _ := d.Read(name)
	file, why := table.Open(b)
	if why != api.OK {
		t.Fatalf("P11.3: the file %s: %d", name, int(why))
	}
	return show(file.All())
}

// TestMerge: what it leaves on the disk, byte for byte, and what is told then: the newest entries of the tables, none Gone, and what is Held as it was.
func TestMerge(t *testing.T) {
	d, db := having(t, put(there("a", "1"), there("b", "1"), there("c", "1"), there("d", "1")), flushes, put(there("b", "2"), gone("c"), gone("never")), flushes, put(there("c", "3"), gone("d"), there("e", "")), flushes)
	held := batch(gone("a"), there("f", "4"), there("b", "4"))
	answers(t, "P11.2: Put", db.Put(held...), api.OK)
	p := plain{"b": "4", "c": "3", "e": "", "f": "4"}
	tells(t, "P11.3: ahead of Merge", db, p)
	counts(t, "P11.3: ahead of Merge", db, 3, 3)
	answers(t, "P11.3: Merge", db.Merge(), api.OK)
	want := fresh(t, room)
	fast(want, "t7", built(there("a", "1"), there("b", "2"), there("c", "3"), there("e", "")))
	file(want, "w6", logged(held), 0)
	fast(want, "list", listed(6, 8, 7))
	if state(d) != state(want) {
		t.Errorf("P11.3: Merge left %s, must leave %s", state(d), state(want))
	}
	tells(t, "P11.3: Merge", db, p)
	counts(t, "P11.3: Merge", db, 1, 3)
	if got := tableOf(t, d, "t7"); got != show(batch(there("a", "1"), there("b", "2"), there("c", "3"), there("e", ""))) {
		t.Errorf("P11.3: Merge made a table of %s", got)
	}
	answers(t, "P11.2: Put behind Merge", db.Put(gone("b")), api.OK)
	p = p.with(gone("b"))
	tells(t, "P11.2: Put behind Merge", db, p)
	tells(t, "P11.1: Put behind Merge", opens(t, "P11.1", d, false), p)
	db = opens(t, "P11.1", d, false)
	answers(t, "P11.3: Flush behind Merge", db.Flush(), api.OK)
	answers(t, "P11.3: Merge again", db.Merge(), api.OK)
	tells(t, "P11.3: Merge again", db, p)
	counts(t, "P11.3: Merge again", db, 1, 0)
	if names(d) != "list t10 w9" || tableOf(t, d, "t10") != p.String() {
		t.Errorf("P11.3: Merge again: files %s", names(d))
	}
}

// TestMergeOfOne: a single table is written anew, without what is Gone.
func TestMergeOfOne(t *testing.T) {
	d, db := having(t, put(there("a", "1"), gone("b"), there("c", "1")), flushes)
	for n := 3; n < 9; n++ {
		answers(t, "P11.3: Merge of one", db.Merge(), api.OK)
		counts(t, "P11.3: Merge of one", db, 1, 0)
		tells(t, "P11.3: Merge of one", db, plain{"a": "1", "c": "1"})
		if got := names(d); got != fmt.Sprintf("list t%d w2", n) || tableOf(t, d, fmt.Sprint("t", n)) != show(batch(there("a", "1"), there("c", "1"))) {
			t.Errorf("P11.3: Merge of one: files %s", got)
		}
	}
}

// TestMergeToNothing: where all is Gone no table is made, and the list names none.
func TestMergeToNothing(t *testing.T) {
	for what, steps := range map[string][]step{
		"t7": {put(there("a", "1")), flushes, put(there("b", "1")), flushes, put(gone("a"), gone("b")), flushes},
		"t3": {put(gone("a"), gone("never")), flushes},
	} {
		for _, held := range [][]api.Entry{nil, batch(there("b", "4"), gone("a"))} {
			d, db := having(t, steps...)
			p, tables := plain{}, db.Tables()
			if len(held) > 0 {
				answers(t, "P11.2: Put", db.Put(held...), api.OK)
				p = p.with(held...)
			}
			lay := func() (*disk.Disk, *kv.DB) { return having(t, steps...) }
			if n := spent(t, lay, func(_ *disk.Disk, db *kv.DB) { db.Merge() }); n != 4+tables {
				t.Errorf("P11.3: Merge to nothing makes %d calls that change the disk", n)
			}
			answers(t, "P11.3: Merge to nothing", db.Merge(), api.OK)
			counts(t, "P11.3: Merge to nothing", db, 0, len(held))
			tells(t, "P11.3: Merge to nothing", db, p)
			b, _ := d.Read("list")
			if names(d) != fmt.Sprint("list w", 2*tables) || string(b) != string(listed(2*tables, 2*tables+2)) {
				t.Errorf("P11.3: Merge to nothing of %s: files %s, list %x", what, names(d), b)
			}
			answers(t, "P11.2: Put", db.Put(there("z", "9")), api.OK)
			tells(t, "P11.1: Merge to nothing", opens(t, "P11.1", d, false), p.with(there("z", "9")))
		}
	}
}

// TestRunOfTheDocument: a Key that is Gone over a table does not come back, whatever of it is merged.
func TestRunOfTheDocument(t *testing.T) {
	d, db := having(t, put(there("a", "1")), flushes, put(gone("a")), merges)
	getsNone(t, "P11.3: Put(a 1), Flush, Put(a Gone), Merge", db, "a")
	for i, s := range []step{flushes, merges, merges, put(there("b", "1")), flushes, merges} {
		answers(t, fmt.Sprint("P11.3: step ", i), s.do(db), api.OK)
		getsNone(t, fmt.Sprint("P11.3: step ", i), db, "a")
		getsNone(t, fmt.Sprint("P11.1: step ", i), opens(t, "P11.1", d, false), "a")
	}
}

// TestMergeOfManyBlocks: tables of many blocks whose Keys lie between one another.
func TestMergeOfManyBlocks(t *testing.T) {
	_, db := having(t)
	p := plain{}
	for layer := range 5 {
		var l []api.Entry
		for i := range 200 {
			k := fmt.Sprintf("k%03d", i)
			switch {
			case i%(layer+2) == 0:
				l = append(l, there(k, fmt.Sprint(layer, long(i))))
			case i%7 == layer:
				l = append(l, gone(k))
			}
		}
		p = p.with(l...)
		answers(t, "P11.2: Put", db.Put(l...), api.OK)
		answers(t, "P11.3: Flush", db.Flush(), api.OK)
		tells(t, fmt.Sprint("P11.3: tables of many blocks, ", layer), db, p)
	}
	answers(t, "P11.3: Merge", db.Merge(), api.OK)
	tells(t, "P11.3: Merge of many blocks", db, p)
	counts(t, "P11.3: Merge of many blocks", db, 1, 0)
}
