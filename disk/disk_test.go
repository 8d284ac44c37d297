package disk_test

import (
	"bytes"
	"fmt"
	"slices"
	"strings"
	"testing"

	"marigraph/api"
	"marigraph/disk"
)

// most is the greatest limit that a disk may have.
const most = 1 << 24

func fresh(t *testing.T, limit int) *disk.Disk {
	t.Helper()
	d, e := disk.New(limit)
	if e != api.OK || d == nil {
		t.Fatalf("P3.1: New(%d): %v", limit, e)
	}
	return d
}

// show is all that can be told of the files: of each its name, its bytes, how many are synced.
func show(d *disk.Disk) string {
	var all []string
	for _, name := range d.Names() {
		b, _ := d.Read(name)
		all = append(all, fmt.Sprintf("%s=%s/%d", name, b, d.Synced(name)))
	}
	return strings.Join(all, " ")
}

// want fails unless the call answered e and left the disk so.
func want(t *testing.T, d *disk.Disk, call string, got, e api.Errno, files string) {
	t.Helper()
	if got != e || show(d) != files {
		t.Errorf("%s: %d, files %q; want %d, files %q", call, int(got), show(d), int(e), files)
	}
}

// two is a disk of 12 bytes on which a is abcde, three of them synced, and b is xyz, not synced.
func two(t *testing.T) *disk.Disk {
	t.Helper()
	d := fresh(t, 12)
	for _, e := range []api.Errno{d.Create("b"), d.Create("a"), d.Append("a", []byte("abc")), d.Sync("a"), d.Append("a", []byte("de")), d.Append("b", []byte("xyz"))} {
		if e != api.OK {
			t.Fatalf("P3.1: laying down: %d", int(e))
		}
	}
	if show(d) != twoShown {
		t.Fatalf("P3.1: laid down: %s", show(d))
	}
	return d
}

const twoShown = "a=abcde/3 b=xyz/0"

func TestNew(t *testing.T) {
	for _, limit := range []int{-1 << 63, -1, most + 1, 1<<63 - 1} {
		if d, e := disk.New(limit); d != nil || e != api.ErrArg {
			t.Errorf("P3.1: New(%d): %v, %d", limit, d, int(e))
		}
	}
	for _, limit := range []int{0, 1, most - 1, most} {
		d := fresh(t, limit)
		b, there := d.Read("a")
		if there || len(b) > 0 || d.Synced("a") != 0 || len(d.Names()) > 0 || d.Used() != 0 || d.Down() {
			t.Errorf("P3.1: New(%d) is not empty", limit)
		}
	}
}

func TestCreate(t *testing.T) {
	long := strings.Repeat("n", 32)
	d := fresh(t, 4)
	want(t, d, "P3.1: Create of no bytes", d.Create(""), api.ErrArg, "")
	want(t, d, "P3.1: Create of 33 bytes", d.Create(long+"n"), api.ErrArg, "")
	want(t, d, "P3.1: Create of 32 bytes", d.Create(long), api.OK, long+"=/0")
	want(t, d, "P3.1: Create of 1 byte", d.Create("\xff"), api.OK, long+"=/0 \xff=/0")
	d.Append("\xff", []byte("1234"))
	d.Sync("\xff")
	want(t, d, "P3.1: Create where a file stands", d.Create("\xff"), api.OK, long+"=/0 \xff=/0")
	if d.Used() != 0 || d.Append(long, []byte("1234")) != api.OK {
		t.Error("P3.1: what stood there still takes room")
	}
	want(t, d, "P3.1: Create on a full disk", d.Create("a"), api.OK, "a=/0 "+long+"=1234/0 \xff=/0")
	d.Crash(0)
	want(t, d, "P3.1: Create is for good", api.OK, api.OK, "a=/0 "+long+"=/0 \xff=/0")
	none := fresh(t, 0)
	want(t, none, "P3.1: Create without room", none.Create("a"), api.OK, "a=/0")
}

func TestNamesRise(t *testing.T) {
	d := fresh(t, 9)
	for _, name := range []string{"b", "a", "\xff", "ab", "\x00", "a\x00", "B", "é", "aa", "a"} {
		d.Create(name)
	}
	rising := []string{"\x00", "B", "a", "a\x00", "aa", "ab", "b", "é", "\xff"}
	if got := d.Names(); !slices.Equal(got, rising) {
		t.Errorf("P3.1: Names: %q", got)
	}
	d.Rename("b", "A")
	d.Remove("aa")
	rising = []string{"\x00", "A", "B", "a", "a\x00", "ab", "é", "\xff"}
	if got := d.Names(); !slices.Equal(got, rising) {
		t.Errorf("P3.1: Names behind Rename and Remove: %q", got)
	}
	got := d.Names()
	got[0] = "other"
	if !slices.Equal(d.Names(), rising) {
		t.Error("R2: the list that Names answered is the disk's own")
	}
}

func TestAppend(t *testing.T) {
	d := two(t)
	want(t, d, "P3.1: Append to no file", d.Append("c", []byte("1")), api.ErrNone, twoShown)
	want(t, d, "P3.1: Append of too much to no file", d.Append("c", make([]byte, 99)), api.ErrNone, twoShown)
	want(t, d, "P3.1: Append to the name of no bytes", d.Append("", nil), api.ErrNone, twoShown)
	want(t, d, "P3.1: Append of a byte too many", d.Append("b", []byte("12345")), api.ErrFull, twoShown)
	want(t, d, "P3.1: Append up to the limit", d.Append("b", []byte("1234")), api.OK, "a=abcde/3 b=xyz1234/0")
	want(t, d, "P3.1: Append to a full disk", d.Append("a", []byte("!")), api.ErrFull, "a=abcde/3 b=xyz1234/0")
	want(t, d, "P3.1: Append of nothing to a full disk", d.Append("a", nil), api.OK, "a=abcde/3 b=xyz1234/0")
	if d.Used() != 12 {
		t.Errorf("P3.1: Used: %d", d.Used())
	}
	d.Crash(0)
	want(t, d, "P3.1: Append is not for good", api.OK, api.OK, "a=abc/3 b=/0")
}

func TestAppendMost(t *testing.T) {
	d := fresh(t, most)
	d.Create("a")
	d.Create("b")
	if d.Append("a", make([]byte, most+1)) != api.ErrFull || d.Append("a", make([]byte, most)) != api.OK || d.Used() != most || d.Append("b", []byte{1}) != api.ErrFull {
		t.Error("P3.1: Append on the greatest disk")
	}
}

func TestSync(t *testing.T) {
	d := two(t)
	want(t, d, "P3.1: Sync of no file", d.Sync("c"), api.ErrNone, twoShown)
	want(t, d, "P3.1: Sync", d.Sync("b"), api.OK, "a=abcde/3 b=xyz/3")
	want(t, d, "P3.1: Sync of a file in part synced", d.Sync("a"), api.OK, "a=abcde/5 b=xyz/3")
	d.Append("a", []byte("f"))
	want(t, d, "P3.1: Append behind Sync", api.OK, api.OK, "a=abcdef/5 b=xyz/3")
	d.Crash(0)
	want(t, d, "P3.1: Sync is for good", api.OK, api.OK, "a=abcde/5 b=xyz/3")
	if d.Synced("c") != 0 {
		t.Error("P3.1: Synced of no file")
	}
}

func TestCut(t *testing.T) {
	d := two(t)
	want(t, d, "P3.1: Cut of no file", d.Cut("c", 0), api.ErrNone, twoShown)
	want(t, d, "P3.1: Cut of no file to below 0", d.Cut("c", -1), api.ErrNone, twoShown)
	for _, n := range []int{-1 << 63, -1, 6, 1<<63 - 1} {
		want(t, d, fmt.Sprint("P3.1: Cut to ", n), d.Cut("a", n), api.ErrArg, twoShown)
	}
	want(t, d, "P3.1: Cut to its length", d.Cut("b", 3), api.OK, "a=abcde/3 b=xyz/3")
	want(t, d, "P3.1: Cut behind what is synced", d.Cut("a", 4), api.OK, "a=abcd/4 b=xyz/3")
	want(t, d, "P3.1: Cut within what is synced", d.Cut("a", 2), api.OK, "a=ab/2 b=xyz/3")
	want(t, d, "P3.1: Cut to 0", d.Cut("b", 0), api.OK, "a=ab/2 b=/0")
	want(t, d, "P3.1: Cut of an empty file to 0", d.Cut("b", 0), api.OK, "a=ab/2 b=/0")
	want(t, d, "P3.1: Cut of an empty file to 1", d.Cut("b", 1), api.ErrArg, "a=ab/2 b=/0")
	want(t, d, "P3.1: Append behind Cut", d.Append("a", []byte("0123456789")), api.OK, "a=ab0123456789/2 b=/0")
	d.Crash(0)
	want(t, d, "P3.1: Cut is for good", api.OK, api.OK, "a=ab/2 b=/0")
}

func TestRename(t *testing.T) {
	long := strings.Repeat("n", 32)
	d := two(t)
	want(t, d, "P3.1: Rename of none", d.Rename("c", "d"), api.ErrNone, twoShown)
	want(t, d, "P3.1: Rename of none onto a file", d.Rename("c", "a"), api.ErrNone, twoShown)
	want(t, d, "P3.1: Rename of none to no bytes", d.Rename("c", ""), api.ErrNone, twoShown)
	want(t, d, "P3.1: Rename of no bytes to no bytes", d.Rename("", ""), api.ErrNone, twoShown)
	want(t, d, "P3.1: Rename to no bytes", d.Rename("a", ""), api.ErrArg, twoShown)
	want(t, d, "P3.1: Rename to 33 bytes", d.Rename("a", long+"n"), api.ErrArg, twoShown)
	want(t, d, "P3.1: Rename onto itself", d.Rename("a", "a"), api.OK, twoShown)
	want(t, d, "P3.1: Rename to 32 bytes", d.Rename("a", long), api.OK, "b=xyz/0 "+long+"=abcde/3")
	want(t, d, "P3.1: Rename to 1 byte", d.Rename(long, "c"), api.OK, "b=xyz/0 c=abcde/3")
	want(t, d, "P3.1: Rename onto another file", d.Rename("c", "b"), api.OK, "b=abcde/3")
	if d.Used() != 5 || d.Append("b", []byte("1234567")) != api.OK {
		t.Error("P3.1: what stood at Rename's to still takes room")
	}
	d.Crash(0)
	want(t, d, "P3.1: Rename is for good", api.OK, api.OK, "b=abc/3")
	if _, there := d.Read("c"); there {
		t.Error("P3.1: the old name is still there")
	}
}

func TestRenameOntoEarlier(t *testing.T) {
	d := two(t)
	want(t, d, "P3.1: Rename of the later onto the earlier", d.Rename("b", "a"), api.OK, "a=xyz/0")
	d = two(t)
	want(t, d, "P3.1: Rename of the earlier onto the later", d.Rename("a", "b"), api.OK, "b=abcde/3")
}

func TestRemove(t *testing.T) {
	d := two(t)
	want(t, d, "P3.1: Remove of none", d.Remove("c"), api.ErrNone, twoShown)
	want(t, d, "P3.1: Remove", d.Remove("a"), api.OK, "b=xyz/0")
	b, there := d.Read("a")
	if there || len(b) > 0 || d.Synced("a") != 0 || d.Used() != 3 {
		t.Error("P3.1: what was removed is still told")
	}
	want(t, d, "P3.1: Remove of what is gone", d.Remove("a"), api.ErrNone, "b=xyz/0")
	d.Crash(9)
	want(t, d, "P3.1: Remove is for good", api.OK, api.OK, "b=xyz/3")
}

func TestRead(t *testing.T) {
	d := two(t)
	d.Create("e")
	if b, there := d.Read("a"); !there || string(b) != "abcde" {
		t.Errorf("P3.1: Read: %q, %t", b, there)
	}
	if b, there := d.Read("e"); !there || len(b) > 0 {
		t.Errorf("P3.1: Read of an empty file: %q, %t", b, there)
	}
	for _, name := range []string{"", "c", strings.Repeat("n", 33)} {
		if b, there := d.Read(name); there || len(b) > 0 {
			t.Errorf("P3.1: Read(%q): %q, %t", name, b, there)
		}
	}
}

func TestGrow(t *testing.T) {
	d := two(t)
	for _, limit := range []int{-1 << 63, -1, 0, 7, most + 1, 1<<63 - 1} {
		if d.Grow(limit) {
			t.Errorf("P3.1: Grow(%d)", limit)
		}
	}
	want(t, d, "P3.1: the limit behind a false Grow", d.Append("a", []byte("1234")), api.OK, "a=abcde1234/3 b=xyz/0")
	want(t, d, "P3.1: the limit behind a false Grow, above it", d.Append("a", []byte("5")), api.ErrFull, "a=abcde1234/3 b=xyz/0")
	d = two(t)
	if !d.Grow(8) {
		t.Error("P3.1: Grow to what is used")
	}
	want(t, d, "P3.1: the limit is what is used", d.Append("b", []byte("!")), api.ErrFull, twoShown)
	if !d.Grow(9) {
		t.Error("P3.1: Grow by one")
	}
	want(t, d, "P3.1: one byte more", d.Append("b", []byte("!")), api.OK, "a=abcde/3 b=xyz!/0")
	if !d.Grow(most) || d.Append("a", make([]byte, most-9)) != api.OK || d.Append("a", []byte("!")) != api.ErrFull {
		t.Error("P3.1: Grow to the most")
	}
	d.Remove("a")
	d.Remove("b")
	if d.Grow(-1) || !d.Grow(0) {
		t.Error("P3.1: Grow of an empty disk")
	}
}

// lent is text with spare room behind it that is marked.
func lent(text string) []byte {
	whole := bytes.Repeat([]byte{'#'}, len(text)+16)
	copy(whole, text)
	return whole[:len(text)]
}

func TestMemory(t *testing.T) {
	d := fresh(t, 99)
	d.Create("a")
	first, second := lent("one"), lent("two")
	d.Append("a", first)
	d.Append("a", second)
	if string(first[:cap(first)]) != "one"+strings.Repeat("#", 16) || string(second[:cap(second)]) != "two"+strings.Repeat("#", 16) {
		t.Error("R2: Append changed what was handed in")
	}
	for _, b := range [][]byte{first, second} {
		for i := range b[:cap(b)] {
			b[:cap(b)][i] = '!'
		}
	}
	want(t, d, "R2: what was handed in is kept", api.OK, api.OK, "a=onetwo/0")
	read, _ := d.Read("a")
	again, _ := d.Read("a")
	for i := range read[:cap(read)] {
		read[:cap(read)][i] = '!'
	}
	want(t, d, "R2: what was read is the disk's own", api.OK, api.OK, "a=onetwo/0")
	d.Append("a", []byte("three"))
	d.Cut("a", 2)
	d.Append("a", []byte("ly"))
	if string(again) != "onetwo" {
		t.Errorf("R2: what was read is now %q", again)
	}
	want(t, d, "R2: behind all", api.OK, api.OK, "a=only/2")
	d.Rename("a", "b")
	d.Create("a")
	d.Append("a", []byte("12345678"))
	d.Append("b", []byte("!"))
	want(t, d, "P3.1: two files share no memory", api.OK, api.OK, "a=12345678/0 b=only!/2")
}

func TestTwoDisks(t *testing.T) {
	one, other := two(t), two(t)
	one.Arm(1)
	one.Remove("a")
	if !one.Down() || other.Down() || other.Remove("a") != api.OK || show(one) != twoShown || show(other) != "b=xyz/0" {
		t.Error("P3.1: two disks are not by themselves")
	}
}
