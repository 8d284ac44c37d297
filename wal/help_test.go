package wal_test

import (
	"bytes"
	"fmt"
	"strings"
	"testing"

	"marigraph/api"
	"marigraph/disk"
	"marigraph/wal"
)

// room is what a disk of the tests has, where it is of no matter.
const room = 1 << 24

func there(key, value string) api.Entry {
	return api.Entry{Key: []byte(key), Value: []byte(value)}
}

func gone(key string) api.Entry {
	return api.Entry{Key: []byte(key), Gone: true}
}

// sized is an entry of a key and a value of so many bytes.
func sized(key, value int, isGone bool) api.Entry {
	return api.Entry{Key: bytes.Repeat([]byte("k"), key), Value: bytes.Repeat([]byte("v"), value), Gone: isGone}
}

func times(n int, e api.Entry) []api.Entry {
	l := make([]api.Entry, n)
	for i := range l {
		l[i] = e
	}
	return l
}

// some are batches of each kind: of one, of none, of several with one key twice, of one that is Gone, of a long value.
func some() [][]api.Entry {
	return [][]api.Entry{
		{there("a", "1")},
		nil,
		{there("b", "2"), gone("c"), there("b", ""), there("\x00\xff", "\xff\x00")},
		{gone("a")},
		{sized(40, 300, false)},
	}
}

// body is a batch within the limits, laid down by the document's words.
func body(l []api.Entry) []byte {
	b := []byte{byte(len(l) / 256), byte(len(l) % 256)}
	for _, e := range l {
		if e.Gone {
			b = append(append(b, 0, byte(len(e.Key))), e.Key...)
			continue
		}
		b = append(append(b, 1, byte(len(e.Key))), e.Key...)
		b = append(append(b, byte(len(e.Value)/256), byte(len(e.Value)%256)), e.Value...)
	}
	return b
}

// head is what stands ahead of a record of n bytes, by the document's words.
func head(n int) []byte {
	h := []byte{byte(n >> 16), byte(n >> 8), byte(n)}
	return append(h, ^h[0], ^h[1], ^h[2])
}

func record(b []byte) []byte {
	return append(head(len(b)), b...)
}

// row is what a file of these batches holds.
func row(batches [][]api.Entry) []byte {
	var b []byte
	for _, l := range batches {
		b = append(b, record(body(l))...)
	}
	return b
}

// whole are the batches whose records end within the first n bytes of their row, and where the last of them ends.
func whole(batches [][]api.Entry, n int) ([][]api.Entry, int) {
	end := 0
	for i, l := range batches {
		next := end + len(record(body(l)))
		if next > n {
			return batches[:i], end
		}
		end = next
	}
	return batches, end
}

func sameEntries(a, b []api.Entry) bool {
	if len(a) != len(b) {
		return false
	}
	for i := range a {
		if !bytes.Equal(a[i].Key, b[i].Key) || !bytes.Equal(a[i].Value, b[i].Value) || a[i].Gone != b[i].Gone {
			return false
		}
	}
	return true
}

func same(a, b [][]api.Entry) bool {
	if len(a) != len(b) {
		return false
	}
	for i := range a {
		if !sameEntries(a[i], b[i]) {
			return false
		}
	}
	return true
}

func fresh(t *testing.T, limit int) *disk.Disk {
	t.Helper()
	d, why := disk.New(limit)
	if why != api.OK {
		t.Fatalf("disk.New(%d): %v", limit, why)
	}
	return d
}

// holding is a disk with a file w of these bytes, the first so many of them synced, and a file beside it that no log may touch.
func holding(t *testing.T, b []byte, synced int) *disk.Disk {
	t.Helper()
	d := fresh(t, room)
	d.Create("beside")
	d.Append("beside", []byte("fast"))
	d.Sync("beside")
	d.Append("beside", []byte("loose"))
	d.Create("w")
	d.Append("w", b[:synced])
	d.Sync("w")
	d.Append("w", b[synced:])
	return d
}

// powerless takes a disk's power, by a call that does nothing.
func powerless(d *disk.Disk) *disk.Disk {
	d.Arm(1)
	d.Sync(d.Names()[0])
	return d
}

// state is all that a disk tells of its files.
func state(d *disk.Disk) string {
	var all []string
	for _, name := range d.Names() {
		b, _ := d.Read(name)
		all = append(all, fmt.Sprintf("%q=%x/%d", name, b, d.Synced(name)))
	}
	return strings.Join(all, " ")
}

// spent is how many of the calls that change a disk are made there by do.
func spent(make func() *disk.Disk, do func(d *disk.Disk)) int {
	for n := 1; ; n++ {
		d := make()
		d.Arm(n)
		do(d)
		if !d.Down() {
			return n - 1
		}
	}
}

// opens fails unless the log of that name opens with these batches; it answers the log.
func opens(t *testing.T, what string, d *disk.Disk, name string, batches [][]api.Entry) *wal.Log {
	t.Helper()
	l, got, why := wal.Open(d, name)
	if l == nil || why != api.OK {
		t.Fatalf("%s: Open: %v", what, why)
	}
	if !same(got, batches) {
		t.Errorf("%s: Open: %.200x, must be %.200x", what, row(got), row(batches))
	}
	if l.Count() != len(batches) || l.Name() != name {
		t.Errorf("%s: Count %d, Name %q", what, l.Count(), l.Name())
	}
	return l
}

// refuses fails unless Open refuses with e, answers nothing beside it, and leaves the disk in the state after.
func refuses(t *testing.T, what string, d *disk.Disk, name string, e api.Errno, after string) {
	t.Helper()
	l, got, why := wal.Open(d, name)
	if l != nil || len(got) > 0 || why != e {
		t.Errorf("%s: Open: a log: %t, %d batches, %v; must be %v", what, l != nil, len(got), why, e)
	}
	if d != nil && state(d) != after {
		t.Errorf("%s: Open left %s, must leave %s", what, state(d), after)
	}
}
