package kv_test

import (
	"bytes"
	"fmt"
	"testing"

	"marigraph/api"
	"marigraph/disk"
	"marigraph/kv"
)

// roomy is a copy of b with marked room behind it.
func roomy(b []byte) []byte {
	return append(bytes.Clone(b), "####"...)[:len(b)]
}

// handedIn is a copy of l whose texts and list have marked room behind them.
func handedIn(l []api.Entry) []api.Entry {
	out := make([]api.Entry, 0, len(l)+2)
	for _, e := range l {
		out = append(out, api.Entry{Key: roomy(e.Key), Value: roomy(e.Value), Gone: e.Gone})
	}
	copy(out[len(l):len(l)+2], batch(there("spare", "room"), gone("spare")))
	return out
}

// unchanged fails unless handed is what handedIn made of l, the room behind it too.
func unchanged(t *testing.T, what string, handed, l []api.Entry) {
	t.Helper()
	if got, want := show(handed[:len(l)+2]), show(handedIn(l)[:len(l)+2]); got != want {
		t.Errorf("R2: %s: what was handed in is %s; was %s", what, got, want)
	}
	for _, e := range handed {
		for _, b := range [][]byte{e.Key, e.Value} {
			if string(b[len(b):len(b)+4]) != "####" {
				t.Errorf("R2: %s: the room behind what was handed in was written", what)
			}
		}
	}
}

// spoil turns all bytes of b and of its spare room.
func spoil(b []byte) {
	b = b[:cap(b)]
	for i := range b {
		b[i] = ^b[i]
	}
}

// spoilAll turns all texts of l, and then l and its spare room.
func spoilAll(l []api.Entry) {
	for _, e := range l {
		spoil(e.Key)
		spoil(e.Value)
	}
	l = l[:cap(l)]
	for i := range l {
		l[i] = there("written", "over")
	}
}

func TestPutKeepsNothing(t *testing.T) {
	for _, behind := range [][]step{nil, {syncs}, {flushes}, {flushes, merges}} {
		d, db := having(t, put(there("k", "0"), there("z", "0")), flushes)
		p := plain{"k": "0", "z": "0"}
		for _, l := range some() {
			handed := handedIn(l)
			answers(t, "P11.2: Put", db.Put(handed...), api.OK)
			unchanged(t, "Put", handed, l)
			for _, s := range behind {
				answers(t, "laying down", s.do(db), api.OK)
				unchanged(t, "Put and then "+s.String(), handed, l)
			}
			spoilAll(handed)
			p = p.with(l...)
			tells(t, "R2: what was handed in is turned", db, p)
		}
		d.Crash(room)
		tells(t, "R2: what was handed in is turned, opened again", opens(t, "R2", d, false), p)
	}
}

// TestRefusedPutLeavesWhatIsHandedIn, whoever refuses it.
func TestRefusedPutLeavesWhatIsHandedIn(t *testing.T) {
	full, inFull := having(t, put(there("a", "1")))
	dark, inDark := having(t, put(there("a", "1")))
	_, db := having(t)
	full.Grow(full.Used())
	powerless(dark)
	for _, l := range append(some(), batch(there("a", "1"), there("", "v")), batch(gone(long(256))), batch(there("a", long(4096)))) {
		handed := handedIn(l)
		if inFull.Put(handed...) == api.OK || inDark.Put(handed...) == api.OK {
			t.Errorf("P11.2: Put of %.80s was not refused", show(l))
		}
		db.Put(handed...)
		unchanged(t, "a refused Put", handed, l)
	}
	tells(t, "P11.2: refused Puts", inFull, plain{"a": "1"})
	tells(t, "P11.2: refused Puts", inDark, plain{"a": "1"})
}

// TestSpareRoomIsNotRead: what stands behind a list or a text makes no difference.
func TestSpareRoomIsNotRead(t *testing.T) {
	_, db := having(t, put(handedIn(batch(there("a", "1"), there("b", "2")))...), put(handedIn(batch(gone("a")))...))
	tells(t, "R5", db, plain{"b": "2"})
	counts(t, "R5", db, 0, 2)
	for range 2 {
		if v, ok := db.Get(roomy([]byte("b"))); !ok || string(v) != "2" {
			t.Errorf("R5: Get: %q, %t", v, ok)
		}
		if got := show(db.Range(roomy([]byte("b")), roomy([]byte("b\x00")))); got != show(batch(there("b", "2"))) {
			t.Errorf("R5: Range: %s", got)
		}
		if got := db.Range(roomy(nil), roomy([]byte("b"))); len(got) > 0 {
			t.Errorf("R5: Range: %s", show(got))
		}
		if got := db.Range(roomy([]byte("a")), roomy(nil)); len(got) != 1 {
			t.Errorf("R5: Range: %s", show(got))
		}
		answers(t, "P11.3: Flush", db.Flush(), api.OK)
	}
}

func TestGetAndRangeLeaveWhatIsHandedIn(t *testing.T) {
	_, db, p := layers(t)
	for k := range p.with(there("", "none"), there("no", "none")) {
		key, to := roomy([]byte(k)), roomy([]byte("kz"))
		v, _ := db.Get(key)
		l := db.Range(key, to)
		db.Range(nil, key)
		if string(key[:len(k)+4]) != k+"####" || string(to[:6]) != "kz####" {
			t.Errorf("R2: what was handed in is %q and %q", key[:len(k)+4], to[:6])
		}
		spoil(key)
		spoil(to)
		if string(v) != p[k] || show(l) != show(p.span(k, "kz")) {
			t.Errorf("R2: Get(%q) is %q, Range %s when what was handed in is turned", k, v, show(l))
		}
	}
	tells(t, "R2: keys that were asked are turned", db, p)
}

// kinds are databases whose answers come from a log, from tables, from both, with few entries and with many.
func kinds(t *testing.T) map[string]func() (*disk.Disk, *kv.DB, plain) {
	from := func(steps ...step) func() (*disk.Disk, *kv.DB, plain) {
		return func() (*disk.Disk, *kv.DB, plain) {
			d, db := having(t, steps...)
			p := plain{}
			for _, s := range steps {
				p = p.with(s.l...)
			}
			return d, db, p
		}
	}
	l := batch(there("k", "v1"), there("ka", "v2"), there("kab", ""), there("kabc", long(100)), there("l", "v1"))
	return map[string]func() (*disk.Disk, *kv.DB, plain){
		"a log": from(put(l...)), "a table": from(put(l...), flushes), "one merged": from(put(l...), flushes, merges),
		"a table and a log": from(put(l...), flushes, put(there("ka", "v3"), gone("l"))), "layers": func() (*disk.Disk, *kv.DB, plain) { return layers(t) },
		"many blocks": from(put(many(40, 3)...), flushes),
	}
}

// TestAnswersAreNewMemory: an answer may be turned, its spare room too, and neither the database nor its disk nor another answer sees it.
func TestAnswersAreNewMemory(t *testing.T) {
	for what, lay := range kinds(t) {
		d, db, p := lay()
		before := state(d)
		other := db.Range(nil, nil)
		for range 2 {
			l := db.Range(nil, nil)
			spoilAll(l)
			_ = append(l, there("written", "behind"))
			for k := range p {
				v, _ := db.Get([]byte(k))
				w, _ := db.Get([]byte(k))
				_ = append(v, "written behind"...)
				spoil(v)
				if string(w) != p[k] {
					t.Errorf("R2: %s: two answers of Get(%q) share memory", what, k)
				}
			}
			tells(t, "R2: answers are turned: "+what, db, p)
		}
		if show(other) != p.String() || state(d) != before {
			t.Errorf("R2: %s: an answer from before is %s", what, show(other))
		}
		answers(t, what, first(db.Flush, db.Merge), api.OK)
		tells(t, "R2: answers are turned, then merged: "+what, db, p)
		if show(other) != p.String() {
			t.Errorf("R2: %s: an answer from before is changed by Flush and Merge: %s", what, show(other))
		}
	}
}

// TestNoTwoListsShareMemory: each text of one answer, with its spare room, is filled with a number of its own, which must stand there when all are.
func TestNoTwoListsShareMemory(t *testing.T) {
	for what, lay := range kinds(t) {
		_, db, _ := lay()
		var texts [][]byte
		for _, e := range db.Range(nil, nil) {
			texts = append(texts, e.Key[:cap(e.Key)], e.Value[:cap(e.Value)])
		}
		for i, b := range texts {
			for j := range b {
				b[j] = byte(i)
			}
		}
		for i, b := range texts {
			if !bytes.Equal(b, bytes.Repeat([]byte{byte(i)}, len(b))) {
				t.Errorf("R2: %s: text %d of an answer shares memory with another", what, i)
			}
		}
	}
}

// TestSameAnswers: nil and empty lists mean the same, and a call answers the same again.
func TestSameAnswers(t *testing.T) {
	one, other := fresh(t, room), fresh(t, room)
	a, b := opens(t, "R4", one, false), opens(t, "R4", other, false)
	answers(t, "R4", a.Put(api.Entry{Key: []byte("k")}, api.Entry{Key: []byte("z"), Gone: true}), api.OK)
	answers(t, "R4", b.Put(api.Entry{Key: []byte("k"), Value: []byte{}}, api.Entry{Key: []byte("z"), Value: []byte{}, Gone: true}), api.OK)
	for range 3 {
		if state(one) != state(other) || asked(a) != asked(b) {
			t.Errorf("R4: %s, %s", state(one), state(other))
		}
		if show(a.Range(nil, nil)) != show(a.Range([]byte{}, []byte{})) || show(a.Range([]byte("k"), nil)) != show(a.Range([]byte("k"), []byte{})) {
			t.Error("R4: Range of nil and of empty ends")
		}
		getsNone(t, "R4", a, "")
		if v, ok := a.Get(nil); len(v) > 0 || ok {
			t.Errorf("R4: Get(nil): %q, %t", v, ok)
		}
		if v, ok := a.Get([]byte("k")); len(v) > 0 || !ok {
			t.Errorf("P11.2: Get of an empty Value: %q, %t", v, ok)
		}
		answers(t, "R4", first(a.Flush, a.Merge), api.OK)
		answers(t, "R4", first(b.Flush, b.Merge), api.OK)
	}
	for n := range 3 {
		d, db, _ := layers(t)
		e, again, _ := layers(t)
		answers(t, "R4", first(db.Flush, db.Merge), first(again.Flush, again.Merge))
		if state(d) != state(e) || asked(db) != asked(again) {
			t.Error(fmt.Sprint("R4: the same calls leave another disk, ", n))
		}
	}
}

// TestTwoDatabases on two disks know nothing of one another.
func TestTwoDatabases(t *testing.T) {
	d, db := having(t, put(there("a", "1")), flushes)
	e, other := having(t, put(there("b", "1")), flushes, put(there("c", "1")))
	answers(t, "P11.2", db.Put(gone("b"), there("d", "2")), api.OK)
	answers(t, "P11.3", first(other.Flush, other.Merge), api.OK)
	for range 2 {
		tells(t, "two databases", db, plain{"a": "1", "d": "2"})
		tells(t, "two databases", other, plain{"b": "1", "c": "1"})
		db, other = opens(t, "P11.1", d, true), opens(t, "P11.1", e, true)
	}
}
