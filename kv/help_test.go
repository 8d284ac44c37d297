package kv_test

import (
	"fmt"
	"slices"
	"strings"
	"testing"

	"marigraph/api"
	"marigraph/disk"
	"marigraph/frame"
	"marigraph/kv"
	"marigraph/manifest"
	"marigraph/table"
)

const (
	// room is what a disk of the tests has, where it is of no matter.
	room = 1 << 20
	// top is the greatest number that a list can tell.
	top = 1<<24 - 1
)

func there(key, value string) api.Entry {
	return api.Entry{Key: []byte(key), Value: []byte(value)}
}

func gone(key string) api.Entry {
	return api.Entry{Key: []byte(key), Gone: true}
}

func batch(l ...api.Entry) []api.Entry { return l }

func long(n int) string { return strings.Repeat("l", n) }

// numbered are n entries whose Keys rise, of three bytes each, from the first-th on.
func numbered(first, n int) []api.Entry {
	var l []api.Entry
	for i := first; i < first+n; i++ {
		l = append(l, api.Entry{Key: []byte{byte(i >> 16), byte(i >> 8), byte(i)}, Value: []byte("v")})
	}
	return l
}

// show writes entries out: two lists are the same where their texts are.
func show(l []api.Entry) string {
	var out []string
	for _, e := range l {
		kind := ""
		if e.Gone {
			kind = " Gone"
		}
		out = append(out, fmt.Sprintf("%q=%q%s", e.Key, e.Value, kind))
	}
	return strings.Join(out, ", ")
}

// plain is what a database must tell: a Value of each Key that is there.
type plain map[string]string

// with answers p with the entries laid over it; p stays as it is.
func (p plain) with(l ...api.Entry) plain {
	out := plain{}
	for k, v := range p {
		out[k] = v
	}
	for _, e := range l {
		if e.Gone {
			delete(out, string(e.Key))
		} else {
			out[string(e.Key)] = string(e.Value)
		}
	}
	return out
}

// span answers the entries from one end to the other, rising, by the document's words.
func (p plain) span(from, to string) []api.Entry {
	var keys []string
	for k := range p {
		if k >= from && (to == "" || k < to) {
			keys = append(keys, k)
		}
	}
	slices.Sort(keys)
	var out []api.Entry
	for _, k := range keys {
		out = append(out, there(k, p[k]))
	}
	return out
}

func (p plain) String() string { return show(p.span("", "")) }

// tells fails unless the database tells just p: by Range of all, by Get of each Key, and of others.
func tells(t *testing.T, what string, db *kv.DB, p plain) {
	t.Helper()
	if got := show(db.Range(nil, nil)); got != p.String() {
		t.Errorf("%s: there is %.300s; must be %.300s", what, got, p)
	}
	for k, v := range p {
		if got, ok := db.Get([]byte(k)); !ok || string(got) != v {
			t.Errorf("%s: Get(%q): %q, %t; must be %q", what, k, got, ok, v)
		}
		for _, other := range []string{k + "\x00", k[:len(k)-1]} {
			if _, has := p[other]; !has {
				getsNone(t, what, db, other)
			}
		}
	}
}

func getsNone(t *testing.T, what string, db *kv.DB, key string) {
	t.Helper()
	if v, ok := db.Get([]byte(key)); len(v) > 0 || ok {
		t.Errorf("%s: Get(%q): %q, %t; must be none", what, key, v, ok)
	}
}

// counts fails unless there are so many tables, and so many keys over them.
func counts(t *testing.T, what string, db *kv.DB, tables, held int) {
	t.Helper()
	if db.Tables() != tables || db.Held() != held {
		t.Errorf("%s: %d Tables, %d Held; must be %d and %d", what, db.Tables(), db.Held(), tables, held)
	}
}

// answers fails unless a call answered e.
func answers(t *testing.T, what string, got, e api.Errno) {
	t.Helper()
	if got != e {
		t.Errorf("%s: %d; must be %d", what, int(got), int(e))
	}
}

func fresh(t *testing.T, limit int) *disk.Disk {
	t.Helper()
	d, why := disk.New(limit)
	if why != api.OK {
		t.Fatalf("disk.New(%d): %v", limit, why)
	}
	return d
}

func opens(t *testing.T, what string, d *disk.Disk, each bool) *kv.DB {
	t.Helper()
	db, why := kv.Open(d, each)
	if db == nil || why != api.OK {
		t.Fatalf("%s: Open: %d", what, int(why))
	}
	return db
}

// refuses fails unless Open answers e and no database, and leaves the disk as it is.
func refuses(t *testing.T, what string, d *disk.Disk, e api.Errno) {
	t.Helper()
	before := state(d)
	for _, each := range []bool{false, true} {
		if db, why := kv.Open(d, each); db != nil || why != e {
			t.Errorf("%s: Open: a database: %t, %d; must be %d", what, db != nil, int(why), int(e))
		}
	}
	if state(d) != before {
		t.Errorf("%s: Open left %s, must leave %s", what, state(d), before)
	}
}

// step is a call of a script: p a Put, s a Sync, f a Flush, m a Merge.
type step struct {
	kind byte
	l    []api.Entry
}

func put(l ...api.Entry) step { return step{kind: 'p', l: l} }

var syncs, flushes, merges = step{kind: 's'}, step{kind: 'f'}, step{kind: 'm'}

func (s step) String() string {
	return fmt.Sprintf("%c %.80s", s.kind, show(s.l))
}

func (s step) do(db *kv.DB) api.Errno {
	switch s.kind {
	case 's':
		return db.Sync()
	case 'f':
		return db.Flush()
	case 'm':
		return db.Merge()
	}
	return db.Put(s.l...)
}

// having is a database behind the steps, none of which may be refused, and its disk.
func having(t *testing.T, steps ...step) (*disk.Disk, *kv.DB) {
	t.Helper()
	d := fresh(t, room)
	db := opens(t, "laying down", d, false)
	for i, s := range steps {
		if why := s.do(db); why != api.OK {
			t.Fatalf("laying down: step %d, %s: %d", i, s, int(why))
		}
	}
	return d, db
}

// file lays a file down, the first so many of its bytes synced.
func file(d *disk.Disk, name string, b []byte, synced int) {
	d.Create(name)
	d.Append(name, b[:synced])
	d.Sync(name)
	d.Append(name, b[synced:])
}

// fast lays a file down, synced.
func fast(d *disk.Disk, name string, b []byte) { file(d, name, b, len(b)) }

// powerless takes a disk's power, by a call that does nothing.
func powerless(d *disk.Disk) *disk.Disk {
	d.Arm(1)
	d.Create("beside")
	return d
}

// state is all that a disk tells of its files.
func state(d *disk.Disk) string {
	var all []string
	for _, name := range d.Names() {
		b, _ := d.Read(name)
		all = append(all, fmt.Sprintf("%q=%.400x(%d)/%d", name, b, len(b), d.Synced(name)))
	}
	return strings.Join(all, " ")
}

func names(d *disk.Disk) string { return strings.Join(d.Names(), " ") }

// spent is how many of the calls that change a disk are made there by do.
func spent(t *testing.T, lay func() (*disk.Disk, *kv.DB), do func(d *disk.Disk, db *kv.DB)) int {
	t.Helper()
	for n := 1; n < 99; n++ {
		d, db := lay()
		d.Arm(n)
		do(d, db)
		if !d.Down() {
			return n - 1
		}
	}
	t.Fatal("a call that never ends")
	return 0
}

// record is b as a record of a file.
func record(b []byte) []byte {
	out, _ := frame.Put(nil, b)
	return out
}

// logged is what a log's file has of the batches.
func logged(batches ...[]api.Entry) []byte {
	var out []byte
	for _, l := range batches {
		b, _ := frame.Batch(l...)
		out = append(out, record(b)...)
	}
	return out
}

// built is what a table's file has of the entries.
func built(l ...api.Entry) []byte {
	b, _ := table.Build(l...)
	return b
}

// listed is what the file list has of these numbers.
func listed(wal, next int, tables ...int) []byte {
	b, _ := manifest.Encode(manifest.List{Tables: tables, Wal: wal, Next: next})
	return record(b)
}
