package manifest_test

import (
	"bytes"
	"fmt"
	"testing"

	"marigraph/api"
	"marigraph/disk"
	"marigraph/manifest"
)

// corrupt fails unless a list of these bytes is refused, whatever of it is synced, with power and without, and nothing is changed.
func corrupt(t *testing.T, what string, b []byte) {
	t.Helper()
	for _, synced := range []int{0, len(b)} {
		d := holding(t, b, synced)
		before := state(d)
		readsNone(t, what, d, api.ErrCorrupt)
		readsNone(t, what+", no power", powerless(d), api.ErrCorrupt)
		if state(d) != before {
			t.Errorf("%s: Read left %s, must leave %s", what, state(d), before)
		}
	}
}

func TestReadOfWell(t *testing.T) {
	for _, l := range well() {
		b := record(laid(l))
		for _, synced := range []int{0, len(b) / 2, len(b)} {
			make := func() *disk.Disk { return holding(t, b, synced) }
			d := make()
			before := state(d)
			for range 3 {
				reads(t, "P10.2", d, l)
			}
			reads(t, "P10.2: no power", powerless(d), l)
			if state(d) != before {
				t.Errorf("P10.2: Read of %s changed the disk", show(l))
			}
			if n := spent(make, func(d *disk.Disk) { manifest.Read(d) }); n != 0 {
				t.Errorf("P10.2: Read of %s makes %d calls that change the disk", show(l), n)
			}
		}
	}
}

func TestReadOfNoBytes(t *testing.T) {
	corrupt(t, "P10.2: no bytes", nil)
	d := fresh(t, 0)
	d.Create("list")
	readsNone(t, "P10.2: no bytes, no room", d, api.ErrCorrupt)
}

// TestReadOfCutOff: a record cut off at each place, by hand and by a crash.
func TestReadOfCutOff(t *testing.T) {
	for _, l := range well() {
		b := record(laid(l))
		for n := range b {
			corrupt(t, fmt.Sprintf("P10.2: %s cut off at %d", show(l), n), b[:n])
			d := holding(t, b, 0)
			d.Crash(n)
			readsNone(t, fmt.Sprintf("P10.2: %s not synced, %d bytes stay", show(l), n), d, api.ErrCorrupt)
		}
		d := holding(t, b, 0)
		d.Crash(len(b))
		reads(t, "P10.2: not synced, all bytes stay", d, l)
	}
}

// TestReadOfMore: with bytes behind the record, be they torn, rubbish, a record, a list.
func TestReadOfMore(t *testing.T) {
	for _, l := range well() {
		b := record(laid(l))
		for _, more := range [][]byte{
			{0}, {0xff}, []byte("\x00\x00\x07"), []byte("\x00\x00\x07\xff\xff"), []byte("\x00\x00\x07\xff\xff\xf8"), []byte("\x00\x00\x07\xff\xff\xf8\x00"), []byte("\x00\x00\x00\x00\x00\x00"), []byte("rubbish"),
			record(nil), record([]byte("x")), b, record(laid(list(0, 1))), append(bytes.Clone(b), b...),
		} {
			corrupt(t, fmt.Sprintf("P10.2: %s and %x", show(l), more), append(bytes.Clone(b), more...))
			corrupt(t, fmt.Sprintf("P10.2: %x and %s", more, show(l)), append(bytes.Clone(more), b...))
		}
	}
}

// TestReadOfNoList: just one record, that Decode doesn't take.
func TestReadOfNoList(t *testing.T) {
	for _, l := range wrong() {
		if fits(l) {
			corrupt(t, "P10.2: the record of "+show(l), record(laid(l)))
		}
	}
	for _, s := range []string{"", "x", "wrong", "\x00", "\x00\x00\x00\x00\x00\x00", "\x00\x00\x00\x00\x00\x00\x00", "\x00\x00\x00\x00\x00\x00\x01\x00", "\x01\x00\x00\x00\x00\x00\x01"} {
		corrupt(t, fmt.Sprintf("P10.2: the record of %q", s), record([]byte(s)))
	}
	for _, l := range well() {
		b := laid(l)
		corrupt(t, "P10.2: a list without its record, "+show(l), b)
		corrupt(t, "P10.2: a record of a record, "+show(l), record(record(b)))
		corrupt(t, "P10.2: a list and a byte more, "+show(l), record(append(bytes.Clone(b), 0)))
		corrupt(t, "P10.2: a list and a byte less, "+show(l), record(b[:len(b)-1]))
	}
}

// TestReadOfTurned: each byte of the file turned: one of the head is refused, one of the list where Decode refuses it.
func TestReadOfTurned(t *testing.T) {
	for _, l := range well() {
		b := record(laid(l))
		for i := range b {
			for _, turn := range []byte{0x01, 0x80, 0xff} {
				turned := bytes.Clone(b)
				turned[i] ^= turn
				other, whole := told(turned[6:])
				if i >= 6 && whole && mayBe(other) {
					reads(t, "P10.2: a byte turned", holding(t, turned, 0), other)
				} else {
					corrupt(t, fmt.Sprintf("P10.2: %s, byte %d turned by %x", show(l), i, turn), turned)
				}
			}
		}
	}
}
