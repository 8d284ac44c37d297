package kv_test

import (
	"fmt"
	"math/rand"
	"testing"

	"marigraph/api"
	"marigraph/disk"
	"marigraph/kv"
)

// puts fails unless Put of the entries answers e. Where that is a refusal, nothing may be changed.
func puts(t *testing.T, what string, d *disk.Disk, db *kv.DB, e api.Errno, l ...api.Entry) {
	t.Helper()
	files, all, held := state(d), show(db.Range(nil, nil)), db.Held()
	answers(t, what+": Put", db.Put(l...), e)
	if e != api.OK && (state(d) != files || show(db.Range(nil, nil)) != all || db.Held() != held) {
		t.Errorf("%s: a refused Put has changed something: files %s, %d Held", what, state(d), db.Held())
	}
}

func TestPutOfNone(t *testing.T) {
	d, db := having(t, put(there("a", "1")))
	for range 2 {
		puts(t, "P11.2: none", d, db, api.ErrArg)
		puts(t, "P11.2: an empty list", d, db, api.ErrArg, []api.Entry{}...)
		powerless(d)
	}
	puts(t, "P11.2: no power", d, db, api.ErrFull, there("a", "1"))
}

// TestPutOfMany: the greatest batch is one, and a greater one is ErrArg, whatever is in it: so the tests of ../shared/tests want it, though the chapter leaves it to the log's ErrLong.
func TestPutOfMany(t *testing.T) {
	d, db := having(t)
	puts(t, "P11.2: MaxOps entries", d, db, api.OK, numbered(1, api.MaxOps)...)
	counts(t, "P11.2: MaxOps entries", db, 0, api.MaxOps)
	puts(t, "P11.2: an entry more", d, db, api.ErrArg, numbered(1, api.MaxOps+1)...)
	puts(t, "P11.2: an entry more, of no Key", d, db, api.ErrArg, make([]api.Entry, api.MaxOps+1)...)
	puts(t, "P11.2: no power", powerless(d), db, api.ErrArg, numbered(1, api.MaxOps+1)...)
	d.Crash(room)
	counts(t, "P11.1: MaxOps entries", opens(t, "P11.1", d, false), 0, api.MaxOps)
}

// TestPutOfWrong: the log's refusals; one entry that may not be is enough, wherever it stands.
func TestPutOfWrong(t *testing.T) {
	for _, each := range []bool{false, true} {
		d := fresh(t, room)
		db := opens(t, "P11.2", d, each)
		puts(t, "P11.2", d, db, api.OK, there("a", "1"), there("b", "1"))
		for _, wrong := range []api.Entry{there("", "v"), gone(""), {}, there(long(256), "v"), gone(long(256)), there("a", long(4096)), there("", long(9999))} {
			puts(t, "P11.2: wrong alone", d, db, api.ErrLong, wrong)
			puts(t, "P11.2: wrong first", d, db, api.ErrLong, wrong, gone("a"))
			puts(t, "P11.2: wrong last", d, db, api.ErrLong, gone("a"), there("c", "1"), wrong)
		}
		puts(t, "P11.2: more than a record has", d, db, api.ErrLong, many(257, 4095)...)
		puts(t, "P11.2: as much as is right", d, db, api.OK, there(long(255), long(4095)), api.Entry{Key: []byte("b"), Value: []byte(long(9999)), Gone: true})
		tells(t, "P11.2", db, plain{"a": "1", long(255): long(4095)})
		puts(t, "P11.2: no power", powerless(d), db, api.ErrLong, there("", "v"))
		d.Crash(0)
		opens(t, "P11.2: behind refused Puts", d, each)
	}
}

// many are n entries with Values of so many bytes.
func many(n, value int) []api.Entry {
	l := numbered(0, n)
	for i := range l {
		l[i].Value = []byte(long(value))
	}
	return l
}

// some are batches one behind the other that lay entries over one another within a batch, and from one to the next.
func some() [][]api.Entry {
	return [][]api.Entry{
		batch(there("b", "1")),
		batch(there("a", "1"), there("c", "1"), there("a", "2")),
		batch(gone("b"), gone("no"), there("d", "")),
		batch(gone("c"), there("c", "3"), there("d", "4"), gone("d")),
		batch(there("b", "back"), there("\x00", "\xff"), there("\xff\xff", "\x00")),
		batch(there("a", "2"), gone("\x00")),
	}
}

func TestPutTells(t *testing.T) {
	for _, each := range []bool{false, true} {
		d := fresh(t, room)
		db := opens(t, "P11.2", d, each)
		p := plain{}
		keys := map[string]bool{}
		for i, l := range some() {
			puts(t, fmt.Sprint("P11.2: batch ", i), d, db, api.OK, l...)
			p = p.with(l...)
			for _, e := range l {
				keys[string(e.Key)] = true
			}
			tells(t, fmt.Sprint("P11.2: batch ", i), db, p)
			counts(t, fmt.Sprint("P11.2: batch ", i), db, 0, len(keys))
			if b, _ := d.Read("w0"); string(b) != string(logged(some()[:i+1]...)) || names(d) != "w0" {
				t.Errorf("P11.2: batch %d: the log is %x", i, b)
			}
		}
		for range 2 {
			db = opens(t, "P11.1: the same again", d, !each)
			tells(t, "P11.1: the same again", db, p)
			counts(t, "P11.1: the same again", db, 0, len(keys))
		}
	}
}

// TestPutAndSync: with each a Put is synced when it is answered, else when Sync is.
func TestPutAndSync(t *testing.T) {
	d, e := fresh(t, room), fresh(t, room)
	db, every := opens(t, "P11.2", d, false), opens(t, "P11.2", e, true)
	for i, l := range some() {
		size := len(logged(some()[:i+1]...))
		synced := d.Synced("w0")
		puts(t, "P11.2", d, db, api.OK, l...)
		puts(t, "P11.2: each", e, every, api.OK, l...)
		if d.Synced("w0") != synced || e.Synced("w0") != size {
			t.Errorf("P11.2: behind Put: %d synced; with each: %d, must be %d", d.Synced("w0"), e.Synced("w0"), size)
		}
		if i%2 == 1 {
			answers(t, "P11.2: Sync", db.Sync(), api.OK)
			answers(t, "P11.2: Sync with each", every.Sync(), api.OK)
			if d.Synced("w0") != size || e.Synced("w0") != size {
				t.Errorf("P11.2: behind Sync: %d and %d synced, must be %d", d.Synced("w0"), e.Synced("w0"), size)
			}
		}
	}
	for each, want := range map[bool]int{false: 1, true: 2} {
		lay := func() (*disk.Disk, *kv.DB) {
			d := fresh(t, room)
			return d, opens(t, "P11.2", d, each)
		}
		if n := spent(t, lay, func(d *disk.Disk, db *kv.DB) { db.Put(there("a", "1"), there("b", "2")) }); n != want {
			t.Errorf("P11.2: each %t: Put makes %d calls that change the disk", each, n)
		}
		if n := spent(t, lay, func(d *disk.Disk, db *kv.DB) { db.Sync() }); n != 1 {
			t.Errorf("P11.2: each %t: Sync makes %d calls that change the disk", each, n)
		}
		if n := spent(t, lay, func(d *disk.Disk, db *kv.DB) { db.Get([]byte("a")); db.Range(nil, nil); db.Held(); db.Tables() }); n != 0 {
			t.Errorf("P11.2: each %t: what only asks makes %d calls that change the disk", each, n)
		}
	}
}

// TestSync: of a new log, of one that has all synced, behind a Flush and a Merge, and without power.
func TestSync(t *testing.T) {
	d, db := having(t)
	answers(t, "P11.2: Sync of nothing", db.Sync(), api.OK)
	for i, s := range []step{put(there("a", "1")), syncs, put(there("b", "1")), flushes, syncs, put(there("c", "1")), merges, put(there("d", "1"))} {
		answers(t, fmt.Sprint("step ", i), s.do(db), api.OK)
	}
	if d.Synced("w2") != 0 {
		t.Errorf("P11.3: Merge synced %d bytes of the log", d.Synced("w2"))
	}
	answers(t, "P11.2: Sync behind Flush and Merge", db.Sync(), api.OK)
	if d.Synced("w2") != len(logged(batch(there("c", "1")), batch(there("d", "1")))) {
		t.Errorf("P11.2: Sync: %d bytes", d.Synced("w2"))
	}
	puts(t, "P11.2", d, db, api.OK, there("e", "1"))
	before := state(d)
	answers(t, "P11.2: Sync without power", func() api.Errno { powerless(d); return db.Sync() }(), api.ErrFull)
	if state(d) != before {
		t.Errorf("P11.2: Sync without power left %s", state(d))
	}
	tells(t, "P11.2: Sync without power", db, plain{"a": "1", "b": "1", "c": "1", "d": "1", "e": "1"})
}

// TestPutAndRoom: on a disk that has room for just so many bytes more.
func TestPutAndRoom(t *testing.T) {
	l := batch(there("b", "22"), gone("a"))
	need := len(logged(l))
	for _, each := range []bool{false, true} {
		for left := range need + 2 {
			what := fmt.Sprintf("P11.2: room for %d bytes, %d are needed", left, need)
			d := fresh(t, room)
			db := opens(t, what, d, each)
			puts(t, what, d, db, api.OK, there("a", "1"))
			d.Grow(d.Used() + left)
			if left >= need {
				puts(t, what, d, db, api.OK, l...)
				tells(t, what, db, plain{"b": "22"})
				continue
			}
			puts(t, what, d, db, api.ErrFull, l...)
			puts(t, what+", again", d, db, api.ErrFull, l...)
			tells(t, what, db, plain{"a": "1"})
			d.Grow(room)
			puts(t, what+", then room", d, db, api.OK, l...)
			tells(t, what+", then room", db, plain{"b": "22"})
			d.Crash(room)
			tells(t, what+", opened again", opens(t, what, d, each), plain{"b": "22"})
		}
	}
}

// TestPutAndPower: power goes at each of its calls: the Put is refused and can not be seen, but its record may be in the log.
func TestPutAndPower(t *testing.T) {
	l := batch(there("b", "22"), gone("a"))
	for _, each := range []bool{false, true} {
		for n := 1; n <= 2; n++ {
			for keep := range len(logged(l)) + 2 {
				what := fmt.Sprintf("P11.2: each %t, power goes at call %d, Crash(%d)", each, n, keep)
				d := fresh(t, room)
				db := opens(t, what, d, each)
				puts(t, what, d, db, api.OK, there("a", "1"))
				db.Sync()
				d.Arm(n)
				want, held, e := plain{"a": "1"}, 1, api.ErrFull
				if n == 2 && !each {
					want, held, e = plain{"b": "22"}, 2, api.OK
				}
				answers(t, what, db.Put(l...), e)
				tells(t, what, db, want)
				counts(t, what, db, 0, held)
				if b, _ := d.Read("w0"); len(b) != len(logged(batch(there("a", "1")), l)) {
					t.Errorf("%s: the log has %d bytes", what, len(b))
				}
				d.Crash(keep)
				want = plain{"a": "1"}
				if keep >= len(logged(l)) {
					want = plain{"b": "22"}
				}
				tells(t, what+", opened again", opens(t, what, d, each), want)
			}
		}
	}
}

// layers is a database whose entries lie in a log over two tables, so that each Key's newest entry lies somewhere else.
func layers(t *testing.T) (*disk.Disk, *kv.DB, plain) {
	t.Helper()
	var oldest, middle, newest []api.Entry
	p := plain{}
	for i := range 27 {
		k := "k" + string(rune('a'+i))
		for layer, l := range []*[]api.Entry{&oldest, &middle, &newest} {
			e := there(k, fmt.Sprint(layer))
			switch []int{i % 3, i / 3 % 3, i / 9}[layer] {
			case 0:
				continue
			case 1:
				e = gone(k)
			}
			*l = append(*l, e)
			p = p.with(e)
		}
	}
	d, db := having(t, put(oldest...), flushes, put(middle...), flushes, put(newest...))
	return d, db, p
}

func TestGetAndRangeOverTables(t *testing.T) {
	d, db, p := layers(t)
	for range 2 {
		tells(t, "P11.2: over tables", db, p)
		counts(t, "P11.2: over tables", db, 2, 18)
		for i := range 27 {
			if k := "k" + string(rune('a'+i)); p[k] == "" {
				getsNone(t, "P11.2: over tables", db, k)
			}
		}
		for _, k := range []string{"", "k", "j", "l", "ka ", "\x00", "\xff", long(300)} {
			getsNone(t, "P11.2: over tables", db, k)
		}
		db = opens(t, "P11.1: over tables", d, false)
	}
}

// TestRangeBounds: each pair of ends, at Keys, between them, and beyond them all.
func TestRangeBounds(t *testing.T) {
	_, db, p := layers(t)
	ends := []string{"", "\x00", "k", "k\xff", "l", "\xff"}
	for i := range 27 {
		k := "k" + string(rune('a'+i))
		ends = append(ends, k, k+"\x00")
	}
	for _, from := range ends {
		for _, to := range ends {
			if got, want := show(db.Range([]byte(from), []byte(to))), show(p.span(from, to)); got != want {
				t.Errorf("P11.2: Range(%q, %q): %s; must be %s", from, to, got, want)
			}
		}
		if got, want := show(db.Range([]byte(from), nil)), show(p.span(from, "")); got != want {
			t.Errorf("P11.2: Range(%q, nil): %s; must be %s", from, got, want)
		}
		if got, want := show(db.Range(nil, []byte(from))), show(p.span("", from)); got != want {
			t.Errorf("P11.2: Range(nil, %q): %s; must be %s", from, got, want)
		}
	}
}

// TestHeld counts Keys, not entries: Gone ones, ones that were never there, ones that lie in a table, too.
func TestHeld(t *testing.T) {
	d, db := having(t, put(there("a", "1"), there("b", "1")), flushes)
	for i, s := range []struct {
		l    []api.Entry
		held int
	}{{batch(there("a", "2")), 1}, {batch(there("a", "2"), there("a", "3")), 1}, {batch(gone("a")), 1}, {batch(gone("never")), 2}, {batch(there("never", "")), 2}, {batch(gone("b"), there("c", "1"), gone("c")), 4}} {
		puts(t, "P11.2", d, db, api.OK, s.l...)
		counts(t, fmt.Sprint("P11.2: Put ", i), db, 1, s.held)
		counts(t, fmt.Sprint("P11.1: Put ", i, ", opened again"), opens(t, "P11.1", d, true), 1, s.held)
	}
}

// TestThrownPuts: of long rows of Puts, held against a plain map all the way.
func TestThrownPuts(t *testing.T) {
	for seed := range 20 {
		r := rand.New(rand.NewSource(int64(seed)))
		d, db := having(t)
		p := plain{}
		for n := range 100 {
			l := thrownBatch(r)
			answers(t, "P11.2: thrown", db.Put(l...), api.OK)
			p = p.with(l...)
			if n%20 == 19 {
				answers(t, "P11.3: thrown", db.Flush(), api.OK)
			}
			tells(t, fmt.Sprintf("P11.2: seed %d, Put %d", seed, n), db, p)
		}
		tells(t, fmt.Sprintf("P11.1: seed %d", seed), opens(t, "P11.1", d, false), p)
	}
}
