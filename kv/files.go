package kv

import (
	"slices"
	"strings"

	"marigraph/api"
	"marigraph/disk"
	"marigraph/manifest"
	"marigraph/mem"
	"marigraph/table"
	"marigraph/wal"
)

// Flush makes a table of what is Held. Until the list names the new table and the new log, the old log has all that is in them: power may go at any call.
func (db *DB) Flush() api.Errno {
	if db.Held() == 0 {
		return api.OK
	}
	n := db.list.Next
	t, why := layTable(db.disk, n, db.held.All())
	if why != api.OK {
		return why
	}
	log, why := layLog(db.disk, n+1)
	if why != api.OK {
		return why
	}
	list := manifest.List{Tables: slices.Concat([]int{n}, db.list.Tables), Wal: n + 1, Next: n + 2}
	if why := manifest.Write(db.disk, list); why != api.OK {
		return why
	}
	old := db.log.Name()
	db.list, db.log, db.held = list, log, mem.New()
	db.tables = slices.Concat([]*table.Table{t}, db.tables)
	db.disk.Remove(old)
	return api.OK
}

// Merge makes one table of all, without what is Gone: no table is left below that a Gone entry would hide anything of. Where nothing is left there is no table.
func (db *DB) Merge() api.Errno {
	if db.Tables() == 0 {
		return api.OK
	}
	n := db.list.Next
	list := manifest.List{Wal: db.list.Wal, Next: n + 1}
	var tables []*table.Table
	if l := live(spans(db.tables), nil, nil); len(l) > 0 {
		t, why := layTable(db.disk, n, l)
		if why != api.OK {
			return why
		}
		list.Tables, tables = []int{n}, []*table.Table{t}
	}
	if why := manifest.Write(db.disk, list); why != api.OK {
		return why
	}
	old := db.list.Tables
	db.list, db.tables = list, tables
	for _, m := range old {
		db.disk.Remove(manifest.Table(m))
	}
	return api.OK
}

// openTables reads the files of the tables. The list names what was synced ahead of it, so one that is not there, or not whole, is none that a crash made so.
func openTables(d *disk.Disk, numbers []int) ([]*table.Table, api.Errno) {
	var out []*table.Table
	for _, n := range numbers {
		b, there := d.Read(manifest.Table(n))
		if !there {
			return nil, api.ErrCorrupt
		}
		t, why := table.Open(b)
		if why != api.OK {
			return nil, api.ErrCorrupt
		}
		out = append(out, t)
	}
	return out, api.OK
}

// sweep takes away what crashes and refused calls left. A file that can't be removed is no harm: it is none of the list's, and made anew where its number comes again.
func sweep(d *disk.Disk, list manifest.List) {
	named := []string{manifest.Wal(list.Wal)}
	for _, n := range list.Tables {
		named = append(named, manifest.Table(n))
	}
	for _, name := range d.Names() {
		if isOurs(name) && !slices.Contains(named, name) {
			d.Remove(name)
		}
	}
}

// isOurs tells whether a file of that name is a table's, a log's, or the draft of a list.
func isOurs(name string) bool {
	return strings.HasPrefix(name, "t") || strings.HasPrefix(name, "w") || name == "new"
}

// layTable puts the entries into the file of table n, synced, and answers them as a table. What is built comes behind the Create, since its refusal does.
func layTable(d *disk.Disk, n int, l []api.Entry) (*table.Table, api.Errno) {
	name := manifest.Table(n)
	if why := d.Create(name); why != api.OK {
		return nil, why
	}
	b, why := table.Build(l...)
	if why != api.OK {
		return nil, why
	}
	if why := d.Append(name, b); why != api.OK {
		return nil, why
	}
	if why := d.Sync(name); why != api.OK {
		return nil, why
	}
	return table.Open(b)
}

// layLog makes the file of log n anew. wal.Open alone would take over whatever stands there.
func layLog(d *disk.Disk, n int) (*wal.Log, api.Errno) {
	name := manifest.Wal(n)
	if why := d.Create(name); why != api.OK {
		return nil, why
	}
	log, _, why := wal.Open(d, name)
	return log, why
}
