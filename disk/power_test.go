package disk_test

import (
	"fmt"
	"strings"
	"testing"

	"marigraph/api"
	"marigraph/disk"
)

// call is one of the six on the disk that two makes, with what it leaves there with power and where power goes at it.
type call struct {
	name        string
	do          func(d *disk.Disk) api.Errno
	after, lost string
}

func six() []call {
	return []call{
		{"Create", func(d *disk.Disk) api.Errno { return d.Create("c") }, "a=abcde/3 b=xyz/0 c=/0", twoShown},
		{"Create where a file stands", func(d *disk.Disk) api.Errno { return d.Create("a") }, "a=/0 b=xyz/0", twoShown},
		{"Append", func(d *disk.Disk) api.Errno { return d.Append("a", []byte("fgh")) }, "a=abcdefgh/3 b=xyz/0", "a=abcdefgh/3 b=xyz/0"},
		{"Append up to the limit", func(d *disk.Disk) api.Errno { return d.Append("b", []byte("1234")) }, "a=abcde/3 b=xyz1234/0", "a=abcde/3 b=xyz1234/0"},
		{"Append of nothing", func(d *disk.Disk) api.Errno { return d.Append("b", nil) }, twoShown, twoShown},
		{"Sync", func(d *disk.Disk) api.Errno { return d.Sync("a") }, "a=abcde/5 b=xyz/0", twoShown},
		{"Cut", func(d *disk.Disk) api.Errno { return d.Cut("a", 1) }, "a=a/1 b=xyz/0", twoShown},
		{"Rename", func(d *disk.Disk) api.Errno { return d.Rename("a", "c") }, "b=xyz/0 c=abcde/3", twoShown},
		{"Rename onto another", func(d *disk.Disk) api.Errno { return d.Rename("a", "b") }, "b=abcde/3", twoShown},
		{"Rename onto itself", func(d *disk.Disk) api.Errno { return d.Rename("a", "a") }, twoShown, twoShown},
		{"Remove", func(d *disk.Disk) api.Errno { return d.Remove("a") }, "b=xyz/0", twoShown},
	}
}

// uncounted are the calls that are refused with ErrArg or ErrNone on the disk that two makes, with power and without.
func uncounted(t *testing.T, d *disk.Disk) {
	t.Helper()
	before, down := show(d), d.Down()
	long := strings.Repeat("n", 33)
	for i, got := range []api.Errno{
		d.Create(""), d.Create(long), d.Cut("a", -1), d.Cut("a", 99), d.Rename("a", ""), d.Rename("a", long),
		d.Append("no", nil), d.Append("no", make([]byte, 99)), d.Sync("no"), d.Cut("no", -1), d.Rename("no", ""), d.Remove("no"),
	} {
		e := api.ErrArg
		if i >= 6 {
			e = api.ErrNone
		}
		want(t, d, fmt.Sprint("P3.2: refused call ", i), got, e, before)
	}
	if d.Down() != down {
		t.Error("P3.2: a refused call took or gave power")
	}
}

func TestPowerAtEachCall(t *testing.T) {
	for _, c := range six() {
		d := two(t)
		want(t, d, "P3.1: "+c.name, c.do(d), api.OK, c.after)
		d = two(t)
		d.Arm(1)
		if d.Down() {
			t.Error("P3.2: Arm alone took power")
		}
		want(t, d, "P3.2: power goes at "+c.name, c.do(d), api.ErrFull, c.lost)
		if !d.Down() {
			t.Errorf("P3.2: %s: power is still there", c.name)
		}
		uncounted(t, d)
		for _, later := range six() {
			want(t, d, "P3.2: behind "+c.name+" "+later.name, later.do(d), api.ErrFull, c.lost)
		}
		if !d.Down() {
			t.Errorf("P3.2: %s: power came back by itself", c.name)
		}
	}
}

func TestCountOfCalls(t *testing.T) {
	for n := 1; n <= 4; n++ {
		for _, c := range six() {
			d := two(t)
			d.Arm(n)
			for i := 1; i < n; i++ {
				uncounted(t, d)
				want(t, d, "P3.2: a counted call with power", d.Append("a", nil), api.OK, twoShown)
			}
			uncounted(t, d)
			want(t, d, fmt.Sprint("P3.2: power goes at call ", n, ", ", c.name), c.do(d), api.ErrFull, c.lost)
			if !d.Down() {
				t.Errorf("P3.2: armed for %d: power is still there at %s", n, c.name)
			}
		}
	}
}

func TestEachCallCounts(t *testing.T) {
	for _, c := range six() {
		d := two(t)
		d.Arm(2)
		want(t, d, "P3.2: one call ahead: "+c.name, c.do(d), api.OK, c.after)
		if d.Down() || d.Create("a") != api.ErrFull || !d.Down() {
			t.Errorf("P3.2: %s was not counted as one", c.name)
		}
	}
}

func TestWantOfRoomCounts(t *testing.T) {
	d := two(t)
	d.Arm(2)
	want(t, d, "P3.2: no room", d.Append("a", []byte("12345")), api.ErrFull, twoShown)
	if d.Down() {
		t.Error("P3.2: want of room took power")
	}
	want(t, d, "P3.2: no room was counted", d.Sync("a"), api.ErrFull, twoShown)
	if !d.Down() {
		t.Error("P3.2: want of room was not counted")
	}
	d = two(t)
	d.Arm(1)
	want(t, d, "P3.2: power goes at an Append without room", d.Append("a", []byte("12345")), api.ErrFull, twoShown)
	if !d.Down() {
		t.Error("P3.2: power goes where there is no room, too")
	}
	want(t, d, "P3.2: an Append with room, power gone", d.Append("a", []byte("1")), api.ErrFull, twoShown)
}

func TestOtherCallsDoNotCount(t *testing.T) {
	d := two(t)
	d.Arm(1)
	for range 3 {
		d.Read("a")
		d.Synced("a")
		d.Names()
		d.Used()
		d.Down()
		d.Grow(12)
		d.Grow(-1)
	}
	if d.Down() {
		t.Error("P3.2: a call that is none of the six was counted")
	}
	want(t, d, "P3.2: the first of the six", d.Sync("a"), api.ErrFull, twoShown)
}

func TestCallsWithoutPower(t *testing.T) {
	d := two(t)
	d.Arm(1)
	d.Sync("b")
	b, there := d.Read("a")
	if !there || string(b) != "abcde" || d.Synced("a") != 3 || d.Used() != 8 || !d.Down() {
		t.Error("P3.2: what is told without power")
	}
	if d.Grow(7) || !d.Grow(20) {
		t.Error("P3.1: Grow without power")
	}
	want(t, d, "P3.2: Append without power, with room", d.Append("a", []byte("f")), api.ErrFull, twoShown)
	d.Crash(0)
	want(t, d, "P3.1: the limit that was set without power", d.Append("b", make([]byte, 18)), api.ErrFull, "a=abc/3 b=/0")
	if d.Append("b", make([]byte, 17)) != api.OK {
		t.Error("P3.1: the limit that was set without power holds")
	}
}

func TestArm(t *testing.T) {
	for _, n := range []int{0, -1, -1 << 63} {
		d := two(t)
		d.Arm(1)
		d.Arm(n)
		for range 50 {
			want(t, d, fmt.Sprint("P3.2: Arm of ", n), d.Append("a", nil), api.OK, twoShown)
		}
	}
	for first := 1; first <= 4; first++ {
		for n := 1; n <= 4; n++ {
			d := two(t)
			d.Arm(first)
			for i := 1; i < first; i++ {
				d.Append("a", nil)
			}
			d.Arm(n)
			for i := 1; i < n; i++ {
				want(t, d, "P3.2: the last Arm holds", d.Append("a", nil), api.OK, twoShown)
			}
			want(t, d, "P3.2: the last Arm's call", d.Append("a", nil), api.ErrFull, twoShown)
		}
	}
	d := two(t)
	d.Arm(1<<63 - 1)
	for range 50 {
		want(t, d, "P3.2: Arm for a late call", d.Append("a", nil), api.OK, twoShown)
	}
}

func TestArmWithoutPower(t *testing.T) {
	for _, n := range []int{-1, 0, 1, 2, 9} {
		d := two(t)
		d.Arm(1)
		d.Sync("a")
		d.Arm(n)
		if !d.Down() {
			t.Errorf("P3.2: Arm(%d) brought power back", n)
		}
		for range 3 {
			want(t, d, "P3.2: power is gone", d.Append("a", []byte("!")), api.ErrFull, twoShown)
		}
		d.Crash(9)
		for range 20 {
			want(t, d, fmt.Sprint("P3.2: Arm of ", n, " while power is gone arms nothing"), d.Append("a", nil), api.OK, "a=abcde/5 b=xyz/3")
		}
	}
}

func TestCrash(t *testing.T) {
	for _, c := range []struct {
		keep  int
		files string
	}{
		{-1 << 63, "a=abc/3 b=/0"}, {-1, "a=abc/3 b=/0"}, {0, "a=abc/3 b=/0"}, {1, "a=abcd/4 b=x/1"}, {2, "a=abcde/5 b=xy/2"},
		{3, "a=abcde/5 b=xyz/3"}, {4, "a=abcde/5 b=xyz/3"}, {1<<63 - 1, "a=abcde/5 b=xyz/3"},
	} {
		for _, arm := range []int{0, 1, 2} {
			d := two(t)
			d.Arm(arm)
			if arm == 1 {
				d.Sync("a")
			}
			d.Crash(c.keep)
			want(t, d, fmt.Sprintf("P3.2: Crash(%d)", c.keep), api.OK, api.OK, c.files)
			d.Crash(0)
			want(t, d, "P3.2: what stays is synced", api.OK, api.OK, c.files)
			for range 4 {
				want(t, d, "P3.2: nothing is armed", d.Append("a", nil), api.OK, c.files)
			}
			if d.Down() {
				t.Error("P3.2: power is not there")
			}
		}
	}
}

func TestCrashBehindLostAppend(t *testing.T) {
	for keep, files := range []string{"a=abc/3 b=/0", "a=abcd/4 b=x/1", "a=abcde/5 b=xy/2", "a=abcdef/6 b=xyz/3", "a=abcdefg/7 b=xyz/3"} {
		d := two(t)
		d.Arm(1)
		d.Append("a", []byte("fg"))
		d.Crash(keep)
		want(t, d, "P3.2: bytes of the Append at which power went", api.OK, api.OK, files)
		if d.Append("a", []byte("!")) != api.OK || d.Append("b", []byte("?")) != api.OK {
			t.Error("P3.2: Append behind Crash")
		}
		d.Crash(0)
		want(t, d, "P3.2: Append behind Crash is not synced", api.OK, api.OK, files)
	}
}

func TestRun(t *testing.T) {
	d := fresh(t, 99)
	d.Create("a")
	d.Append("a", []byte("xy"))
	d.Crash(1)
	if b, there := d.Read("a"); !there || string(b) != "x" {
		t.Errorf("the chapter's run: %q", b)
	}
}
