package kv_test

import (
	"fmt"
	"math/rand"
	"slices"
	"strings"
	"testing"

	"marigraph/api"
	"marigraph/disk"
	"marigraph/frame"
	"marigraph/kv"
	"marigraph/manifest"
	"marigraph/table"
)

// model is a database as the chapter's words say it, on a disk of its own: maps of entries, and the disk's calls written out.
type model struct {
	d      *disk.Disk
	each   bool
	list   manifest.List
	held   map[string]api.Entry
	tables []map[string]api.Entry
}

// lay lays the entries over m, a Gone one as Gone.
func lay(m map[string]api.Entry, l []api.Entry) {
	for _, e := range l {
		if e.Gone {
			e.Value = nil
		}
		m[string(e.Key)] = e
	}
}

func rising(m map[string]api.Entry) []api.Entry {
	var out []api.Entry
	for _, e := range m {
		out = append(out, e)
	}
	slices.SortFunc(out, func(a, b api.Entry) int { return strings.Compare(string(a.Key), string(b.Key)) })
	return out
}

// first makes the calls up to the first refusal, and answers that.
func first(calls ...func() api.Errno) api.Errno {
	for _, c := range calls {
		if why := c(); why != api.OK {
			return why
		}
	}
	return api.OK
}

func (m *model) open() api.Errno {
	list, ok, why := manifest.Read(m.d)
	if why != api.OK {
		return why
	}
	if !ok {
		list = manifest.List{Next: 1}
	}
	m.list, m.tables, m.held = list, nil, map[string]api.Entry{}
	keep := map[string]bool{fmt.Sprint("w", list.Wal): true}
	for _, n := range list.Tables {
		b, _ := m.d.Read(fmt.Sprint("t", n))
		t, why := table.Open(b)
		if why != api.OK {
			return api.ErrCorrupt
		}
		entries := map[string]api.Entry{}
		lay(entries, t.All())
		m.tables = append(m.tables, entries)
		keep[fmt.Sprint("t", n)] = true
	}
	if why := m.openLog(fmt.Sprint("w", list.Wal)); why != api.OK {
		return why
	}
	for _, name := range m.d.Names() {
		if (name[0] == 't' || name[0] == 'w' || name == "new") && !keep[name] {
			m.d.Remove(name)
		}
	}
	return api.OK
}

func (m *model) openLog(name string) api.Errno {
	b, ok := m.d.Read(name)
	if !ok {
		return m.d.Create(name)
	}
	records, end, why := frame.All(b)
	if why != api.OK {
		return api.ErrCorrupt
	}
	if end < len(b) {
		if why := m.d.Cut(name, end); why != api.OK {
			return why
		}
	}
	for _, r := range records {
		l, why := frame.Entries(r)
		if why != api.OK {
			return api.ErrCorrupt
		}
		lay(m.held, l)
	}
	return api.OK
}

func (m *model) log() string { return fmt.Sprint("w", m.list.Wal) }

func (m *model) do(s step) api.Errno {
	switch s.kind {
	case 's':
		return m.d.Sync(m.log())
	case 'f':
		return m.flush()
	case 'm':
		return m.merge()
	}
	return m.put(s.l)
}

func (m *model) put(l []api.Entry) api.Errno {
	if len(l) == 0 {
		return api.ErrArg
	}
	b, why := frame.Batch(l...)
	if why != api.OK {
		return why
	}
	why = first(
		func() api.Errno { return m.d.Append(m.log(), record(b)) },
		func() api.Errno {
			if m.each {
				return m.d.Sync(m.log())
			}
			return api.OK
		},
	)
	if why == api.OK {
		lay(m.held, l)
	}
	return why
}

// write makes the calls of a new table, if there are entries, of a new log, if wal is its name, and of manifest.Write.
func (m *model) write(name string, l []api.Entry, wal string, list manifest.List) api.Errno {
	calls := []func() api.Errno{}
	if len(l) > 0 {
		calls = append(calls,
			func() api.Errno { return m.d.Create(name) },
			func() api.Errno { return m.d.Append(name, built(l...)) },
			func() api.Errno { return m.d.Sync(name) },
		)
	}
	if wal != "" {
		calls = append(calls, func() api.Errno { return m.d.Create(wal) })
	}
	b, why := manifest.Encode(list)
	return first(append(calls,
		func() api.Errno { return why },
		func() api.Errno { return m.d.Create("new") },
		func() api.Errno { return m.d.Append("new", record(b)) },
		func() api.Errno { return m.d.Sync("new") },
		func() api.Errno { return m.d.Rename("new", "list") },
	)...)
}

func (m *model) flush() api.Errno {
	if len(m.held) == 0 {
		return api.OK
	}
	n := m.list.Next
	list := manifest.List{Tables: append([]int{n}, m.list.Tables...), Wal: n + 1, Next: n + 2}
	if why := m.write(fmt.Sprint("t", n), rising(m.held), fmt.Sprint("w", n+1), list); why != api.OK {
		return why
	}
	old := m.log()
	m.list, m.tables, m.held = list, append([]map[string]api.Entry{m.held}, m.tables...), map[string]api.Entry{}
	m.d.Remove(old)
	return api.OK
}

func (m *model) merge() api.Errno {
	if len(m.tables) == 0 {
		return api.OK
	}
	n := m.list.Next
	all := map[string]api.Entry{}
	for i := range m.tables {
		lay(all, rising(m.tables[len(m.tables)-1-i]))
	}
	for k, e := range all {
		if e.Gone {
			delete(all, k)
		}
	}
	list, tables := manifest.List{Wal: m.list.Wal, Next: n + 1}, []map[string]api.Entry(nil)
	if len(all) > 0 {
		list.Tables, tables = []int{n}, []map[string]api.Entry{all}
	}
	if why := m.write(fmt.Sprint("t", n), rising(all), "", list); why != api.OK {
		return why
	}
	old := m.list.Tables
	m.list, m.tables = list, tables
	for _, k := range old {
		m.d.Remove(fmt.Sprint("t", k))
	}
	return api.OK
}

// plain is what is there.
func (m *model) plain() plain {
	p := plain{}
	for i := range m.tables {
		p = p.with(rising(m.tables[len(m.tables)-1-i])...)
	}
	return p.with(rising(m.held)...)
}

// twins are a database and the model of it, on two disks that are alike.
type twins struct {
	d  *disk.Disk
	db *kv.DB
	m  *model
}

func newTwins(t *testing.T, limit int, each bool) *twins {
	t.Helper()
	w := &twins{d: fresh(t, limit), m: &model{d: fresh(t, limit), each: each}}
	w.open(t, "P11.1: a new one")
	return w
}

// both does something to both disks.
func (w *twins) both(f func(d *disk.Disk)) {
	f(w.d)
	f(w.m.d)
}

// open opens both anew; false, if both are refused.
func (w *twins) open(t *testing.T, what string) bool {
	t.Helper()
	e := w.m.open()
	db, why := kv.Open(w.d, w.m.each)
	if why != e || (db != nil) != (e == api.OK) {
		t.Fatalf("%s: Open: %d; must be %d", what, int(why), int(e))
	}
	w.db = db
	if e == api.OK {
		w.alike(t, what+", opened")
	}
	return e == api.OK
}

// do takes a step with both, which must answer alike and leave both alike.
func (w *twins) do(t *testing.T, what string, s step) api.Errno {
	t.Helper()
	e := w.m.do(s)
	if why := s.do(w.db); why != e {
		t.Fatalf("%s: %s: %d; must be %d", what, s, int(why), int(e))
	}
	w.alike(t, fmt.Sprintf("%s: %s", what, s))
	return e
}

// alike fails unless both tell the same, and have the same files.
func (w *twins) alike(t *testing.T, what string) {
	t.Helper()
	tells(t, what, w.db, w.m.plain())
	counts(t, what, w.db, len(w.m.tables), len(w.m.held))
	if state(w.d) != state(w.m.d) || w.d.Down() != w.m.d.Down() {
		t.Errorf("%s: left %s, must leave %s", what, state(w.d), state(w.m.d))
	}
	if t.Failed() {
		t.FailNow()
	}
}

// thrownBatch are few Keys, so that they come again and again.
func thrownBatch(r *rand.Rand) []api.Entry {
	var l []api.Entry
	for range 1 + r.Intn(4) {
		k := "key"[:1+r.Intn(3)] + fmt.Sprint(r.Intn(7))
		if r.Intn(3) == 0 {
			l = append(l, gone(k))
		} else {
			l = append(l, there(k, long(r.Intn(4))+fmt.Sprint(r.Intn(99))))
		}
	}
	return l
}

func thrownStep(r *rand.Rand) step {
	switch r.Intn(9) {
	case 0, 1:
		return flushes
	case 2:
		return merges
	case 3:
		return syncs
	case 4:
		wrong := [][]api.Entry{nil, batch(there("", "v")), batch(there("a", "1"), gone(long(256))), batch(there("a", long(4096)))}
		return put(wrong[r.Intn(len(wrong))]...)
	}
	return put(thrownBatch(r)...)
}

// TestModel throws calls at both, with little room, with power that goes, with crashes, and Opens anew.
func TestModel(t *testing.T) {
	for seed := range 250 {
		r := rand.New(rand.NewSource(int64(seed)))
		limit := 60 << r.Intn(6)
		w := newTwins(t, limit, seed%2 == 0)
		for n := range 150 {
			what := fmt.Sprintf("P11.1 to P11.3: seed %d, call %d", seed, n)
			switch r.Intn(30) {
			case 0:
				arm := r.Intn(14)
				w.both(func(d *disk.Disk) { d.Arm(arm) })
			case 1:
				more := w.d.Used() + r.Intn(200)
				w.both(func(d *disk.Disk) { d.Grow(more) })
			case 2:
				keep := r.Intn(30) - 1
				w.both(func(d *disk.Disk) { d.Crash(keep) })
				w.open(t, what)
			case 3:
				if !w.d.Down() {
					w.open(t, what)
				}
			default:
				w.do(t, what, thrownStep(r))
			}
		}
	}
}
