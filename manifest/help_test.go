package manifest_test

import (
	"bytes"
	"fmt"
	"slices"
	"strings"
	"testing"

	"marigraph/api"
	"marigraph/disk"
	"marigraph/manifest"
)

const (
	// room is what a disk of the tests has, where it is of no matter.
	room = 1 << 16
	// top is the greatest number that three bytes hold.
	top = 1<<24 - 1
)

func list(wal, next int, tables ...int) manifest.List {
	return manifest.List{Tables: tables, Wal: wal, Next: next}
}

// upTo are the numbers below n, the greatest first, as tables come to be.
func upTo(n int) []int {
	var l []int
	for i := range n {
		l = append(l, n-1-i)
	}
	return l
}

// well are lists of each kind that may be.
func well() []manifest.List {
	return []manifest.List{
		list(0, 1), list(0, top), list(1, 2), list(top-1, top), list(258, 65536),
		list(0, 1, 0), list(2, 3, 1), list(2, 2+1, 2), list(0, top, top-1), list(4, 7, 5), list(5, 7, 4),
		list(2, 65536, 258, 1), list(6, 7, 5, 3, 1), list(0, 9, 1, 8, 0, 7), list(3, 300, upTo(254)...), list(0, 255, upTo(255)...), list(top-1, top, upTo(255)...),
	}
}

// mayBe tells by the document's words, one behind the other, whether Encode takes l.
func mayBe(l manifest.List) bool {
	if len(l.Tables) > 255 {
		return false
	}
	had := map[int]int{}
	for _, n := range append(append([]int{}, l.Tables...), l.Wal) {
		if n < 0 || n > top || n >= l.Next {
			return false
		}
	}
	for _, n := range l.Tables {
		had[n]++
		if had[n] > 1 {
			return false
		}
	}
	return l.Next >= 0 && l.Next <= top
}

// laid is a list as bytes, by the document's words; its numbers must fit into three bytes.
func laid(l manifest.List) []byte {
	three := func(n int) []byte { return []byte{byte(n / 65536), byte(n / 256 % 256), byte(n % 256)} }
	b := []byte{byte(len(l.Tables))}
	for _, n := range l.Tables {
		b = append(b, three(n)...)
	}
	return append(append(b, three(l.Wal)...), three(l.Next)...)
}

// fits tells whether three bytes hold each number of l.
func fits(l manifest.List) bool {
	for _, n := range append(append([]int{}, l.Tables...), l.Wal, l.Next) {
		if n < 0 || n > top {
			return false
		}
	}
	return true
}

// told is the one list that bytes of the right length can be of, whether it may be or not.
func told(b []byte) (manifest.List, bool) {
	if len(b) == 0 || len(b) != 7+3*int(b[0]) {
		return manifest.List{}, false
	}
	var all []int
	for i := 1; i < len(b); i += 3 {
		all = append(all, int(b[i])*65536+int(b[i+1])*256+int(b[i+2]))
	}
	n := int(b[0])
	return manifest.List{Tables: all[:n:n], Wal: all[n], Next: all[n+1]}, true
}

// record is b as the one record of a file, by the document's words.
func record(b []byte) []byte {
	h := []byte{byte(len(b) >> 16), byte(len(b) >> 8), byte(len(b))}
	return append(append(h, ^h[0], ^h[1], ^h[2]), b...)
}

func same(a, b manifest.List) bool {
	return slices.Equal(a.Tables, b.Tables) && a.Wal == b.Wal && a.Next == b.Next
}

// empty tells whether l is what stands beside a refusal.
func empty(l manifest.List) bool {
	return len(l.Tables) == 0 && l.Wal == 0 && l.Next == 0
}

func fresh(t *testing.T, limit int) *disk.Disk {
	t.Helper()
	d, why := disk.New(limit)
	if why != api.OK {
		t.Fatalf("disk.New(%d): %v", limit, why)
	}
	return d
}

// put lays a file down, of whose bytes the first so many are synced.
func put(d *disk.Disk, name string, b []byte, synced int) {
	d.Create(name)
	d.Append(name, b[:synced])
	d.Sync(name)
	d.Append(name, b[synced:])
}

// beside lays files down that no call of this package may touch, with names that come near to its own.
func beside(d *disk.Disk) {
	for _, name := range []string{"lis", "list ", "List", "ne", "newt", "New", "t0", "t1", "w0", "w2"} {
		put(d, name, []byte("beside "+name), 3)
	}
}

// holding is a disk with a file list of these bytes, synced or not, and files beside it.
func holding(t *testing.T, b []byte, synced int) *disk.Disk {
	t.Helper()
	d := fresh(t, room)
	beside(d)
	put(d, "list", b, synced)
	return d
}

// having is a disk on which the lists were Written, in order, and files beside them.
func having(t *testing.T, l ...manifest.List) *disk.Disk {
	t.Helper()
	d := fresh(t, room)
	beside(d)
	for _, one := range l {
		writes(t, "P10.2: laying down", d, one)
	}
	return d
}

// powerless takes a disk's power, by a call that does nothing.
func powerless(d *disk.Disk) *disk.Disk {
	d.Arm(1)
	d.Create("beside")
	return d
}

// state is all that a disk tells of its files.
func state(d *disk.Disk) string {
	var all []string
	for _, name := range d.Names() {
		b, _ := d.Read(name)
		all = append(all, fmt.Sprintf("%q=%x/%d", name, b, d.Synced(name)))
	}
	return strings.Join(all, " ")
}

// spent is how many of the calls that change a disk are made there by do.
func spent(make func() *disk.Disk, do func(d *disk.Disk)) int {
	for n := 1; ; n++ {
		d := make()
		d.Arm(n)
		do(d)
		if !d.Down() {
			return n - 1
		}
	}
}

func writes(t *testing.T, what string, d *disk.Disk, l manifest.List) {
	t.Helper()
	if why := manifest.Write(d, l); why != api.OK {
		t.Errorf("%s: Write of %s: %v", what, show(l), why)
	}
}

// reads fails unless Read tells this list.
func reads(t *testing.T, what string, d *disk.Disk, want manifest.List) {
	t.Helper()
	l, ok, why := manifest.Read(d)
	if !same(l, want) || !ok || why != api.OK {
		t.Errorf("%s: Read: %s, %t, %v; must be %s", what, show(l), ok, why, show(want))
	}
}

// readsNone fails unless Read tells no list, and refuses with e.
func readsNone(t *testing.T, what string, d *disk.Disk, e api.Errno) {
	t.Helper()
	l, ok, why := manifest.Read(d)
	if !empty(l) || ok || why != e {
		t.Errorf("%s: Read: %s, %t, %v; must be none and %v", what, show(l), ok, why, e)
	}
}

// readsLast fails unless Read tells the last of the lists, or none of none.
func readsLast(t *testing.T, what string, d *disk.Disk, l []manifest.List) {
	t.Helper()
	if len(l) == 0 {
		readsNone(t, what, d, api.OK)
		return
	}
	reads(t, what, d, l[len(l)-1])
}

// show is l in short, for a test that fails.
func show(l manifest.List) string {
	if len(l.Tables) > 12 {
		return fmt.Sprintf("{%d tables, %v .., %d, %d}", len(l.Tables), l.Tables[:12], l.Wal, l.Next)
	}
	return fmt.Sprintf("{%v, %d, %d}", l.Tables, l.Wal, l.Next)
}

// spareMark fills the spare room of what is handed in, so that a write into it shows.
const spareMark = -77

// roomy is a copy of l with marked room behind its Tables.
func roomy(l manifest.List) manifest.List {
	whole := append(append([]int{}, l.Tables...), spareMark, spareMark, spareMark)
	return manifest.List{Tables: whole[:len(l.Tables)], Wal: l.Wal, Next: l.Next}
}

// untouched fails unless handed, which roomy made of l, is as it was made.
func untouched(t *testing.T, what string, handed, l manifest.List) {
	t.Helper()
	spare := handed.Tables[len(handed.Tables) : len(handed.Tables)+3]
	if !same(handed, l) || !slices.Equal(spare, []int{spareMark, spareMark, spareMark}) {
		t.Errorf("R2: %s: what was handed in, or its spare room, has changed: %s, %v", what, show(handed), spare)
	}
}

// spoilNumbers turns all numbers of l and of its spare room.
func spoilNumbers(l []int) {
	l = l[:cap(l)]
	for i := range l {
		l[i] = ^l[i]
	}
}

// spoilBytes turns all bytes of b and of its spare room.
func spoilBytes(b []byte) {
	b = b[:cap(b)]
	for i := range b {
		b[i] = ^b[i]
	}
}

// roomyBytes is a copy of b with marked room behind it.
func roomyBytes(b []byte) []byte {
	whole := append(bytes.Clone(b), "###"...)
	return whole[:len(b)]
}

// untouchedBytes fails unless handed, which roomyBytes made of b, is as it was made.
func untouchedBytes(t *testing.T, what string, handed, b []byte) {
	t.Helper()
	if !bytes.Equal(handed[:len(handed)+3], append(bytes.Clone(b), "###"...)) {
		t.Errorf("R2: %s: what was handed in, or its spare room, has changed", what)
	}
}
