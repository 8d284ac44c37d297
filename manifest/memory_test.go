package manifest_test

import (
	"bytes"
	"testing"

	"marigraph/api"
	"marigraph/manifest"
)

func TestEncodeLeavesWhatIsHandedIn(t *testing.T) {
	for _, l := range append(well(), wrong()...) {
		handed := roomy(l)
		b, why := manifest.Encode(handed)
		untouched(t, "Encode", handed, l)
		again, _ := manifest.Encode(handed)
		spoilNumbers(handed.Tables)
		if why == api.OK && !bytes.Equal(b, laid(l)) {
			t.Errorf("R2: Encode of %s: the answer is %x when what was handed in is turned", show(l), b)
		}
		spoilBytes(b)
		if why == api.OK && !bytes.Equal(again, laid(l)) {
			t.Errorf("R2: two answers of Encode of %s share memory", show(l))
		}
	}
}

func TestDecodeLeavesWhatIsHandedIn(t *testing.T) {
	for _, l := range well() {
		b := laid(l)
		handed := roomyBytes(b)
		got, _ := manifest.Decode(handed)
		again, _ := manifest.Decode(handed)
		untouchedBytes(t, "Decode", handed, b)
		spoilBytes(handed)
		if !same(got, l) {
			t.Errorf("R2: Decode of %s: the answer is %s when what was handed in is turned", show(l), show(got))
		}
		spoilNumbers(got.Tables)
		if !same(again, l) || got.Wal != l.Wal || got.Next != l.Next {
			t.Errorf("R2: two answers of Decode of %s share memory", show(l))
		}
	}
	for _, l := range wrong() {
		handed := roomyBytes(laid(l))
		manifest.Decode(handed)
		untouchedBytes(t, "a refused Decode", handed, laid(l))
	}
}

// TestSpareRoomIsNotRead: what stands behind a list or bytes makes no difference.
func TestSpareRoomIsNotRead(t *testing.T) {
	all := upTo(255)
	for _, n := range []int{0, 1, 2, 254} {
		l := manifest.List{Tables: all[:n], Wal: 1, Next: 900}
		encodes(t, l)
	}
	twice := []int{3, 4, 3, 9, -1}
	encodes(t, manifest.List{Tables: twice[:2], Next: 5})
	b := laid(list(2, 3, 1))
	for n := range b {
		decodesNone(t, b[:n])
	}
	decodes(t, append(bytes.Clone(b), "more"...)[:len(b)], list(2, 3, 1))
}

func TestWriteKeepsNothing(t *testing.T) {
	for _, l := range well() {
		d := fresh(t, room)
		handed := roomy(l)
		writes(t, "P10.2", d, handed)
		untouched(t, "Write", handed, l)
		spoilNumbers(handed.Tables)
		reads(t, "R2: behind Write what was handed in is turned", d, l)
		d.Crash(0)
		reads(t, "R2: behind Write what was handed in is turned, and a crash", d, l)
	}
}

// TestRefusedWriteLeavesWhatIsHandedIn, whoever refuses it.
func TestRefusedWriteLeavesWhatIsHandedIn(t *testing.T) {
	none, full, dark := fresh(t, 0), having(t, list(0, 1)), powerless(having(t, list(0, 1)))
	full.Grow(full.Used())
	for _, l := range append(well(), wrong()...) {
		handed := roomy(l)
		for _, why := range []api.Errno{manifest.Write(nil, handed), manifest.Write(none, handed), manifest.Write(full, handed), manifest.Write(dark, handed)} {
			if why == api.OK {
				t.Errorf("P10.2: Write of %s was not refused", show(l))
			}
		}
		untouched(t, "a refused Write", handed, l)
	}
}

// TestReadAnswersNewMemory: an answer may be turned, its spare room too, and neither the disk nor another answer sees it.
func TestReadAnswersNewMemory(t *testing.T) {
	for _, l := range well() {
		d := having(t, l)
		before := state(d)
		got, _, _ := manifest.Read(d)
		again, _, _ := manifest.Read(d)
		_ = append(got.Tables, 1, 2, 3)
		spoilNumbers(got.Tables)
		if !same(again, l) || state(d) != before || got.Wal != l.Wal || got.Next != l.Next {
			t.Errorf("R2: what Read of %s answered is kept", show(l))
		}
		reads(t, "R2: behind Read its answer is turned", d, l)
		writes(t, "P10.2", d, list(8, 9, 7))
		if !same(again, l) {
			t.Errorf("R2: what Read of %s answered is changed by Write", show(l))
		}
	}
}

// TestSameAnswers: nil and empty lists mean the same, and a call answers the same again.
func TestSameAnswers(t *testing.T) {
	one, other := fresh(t, room), fresh(t, room)
	writes(t, "R4", one, manifest.List{Tables: nil, Wal: 2, Next: 3})
	writes(t, "R4", other, manifest.List{Tables: []int{}, Wal: 2, Next: 3})
	if state(one) != state(other) {
		t.Errorf("R4: %s, %s", state(one), state(other))
	}
	decodesNone(t, nil)
	decodesNone(t, []byte{})
	for _, l := range append(well(), wrong()...) {
		b, why := manifest.Encode(l)
		again, whyAgain := manifest.Encode(l)
		if !bytes.Equal(b, again) || why != whyAgain {
			t.Errorf("R4: Encode of %s: %x, then %x", show(l), b, again)
		}
	}
}
