package merge_test

import (
	"bytes"
	"fmt"
	"math/rand"
	"slices"
	"testing"

	"marigraph/api"
	"marigraph/merge"
)

func there(key, value string) api.Entry {
	return api.Entry{Key: []byte(key), Value: []byte(value)}
}

func gone(key string) api.Entry {
	return api.Entry{Key: []byte(key), Gone: true}
}

// goneWith is a Gone one that is handed in with a Value.
func goneWith(key, value string) api.Entry {
	return api.Entry{Key: []byte(key), Value: []byte(value), Gone: true}
}

// list are the entries as a row. One without entries is empty, and not nil.
func list(l ...api.Entry) []api.Entry { return append([]api.Entry{}, l...) }

// rows are the rows as they are handed to Join, the newest first. Without rows it is empty, and not nil.
func rows(l ...[]api.Entry) [][]api.Entry { return append([][]api.Entry{}, l...) }

// long is a text of n bytes.
func long(n int) string { return string(bytes.Repeat([]byte("k"), n)) }

// ascending are n entries with Keys that rise, each third Gone.
func ascending(n int) []api.Entry {
	l := make([]api.Entry, n)
	for i := range l {
		key := fmt.Sprintf("%06d5", i)
		l[i] = there(key, fmt.Sprint(i*i))
		if i%3 == 2 {
			l[i] = gone(key)
		}
	}
	return l
}

// same holds entries against each other byte for byte, so that a Gone one's Value must be empty where it is answered.
func same(a, b api.Entry) bool {
	return bytes.Equal(a.Key, b.Key) && bytes.Equal(a.Value, b.Value) && a.Gone == b.Gone
}

// plainJoin goes through the rows from the newest on, and takes each entry whose Key is not there yet; then it sorts. It is told by maps and Go's own sort, and by nothing of merge.
func plainJoin(l [][]api.Entry) []api.Entry {
	byKey := map[string]api.Entry{}
	for _, row := range l {
		for _, e := range row {
			if _, ok := byKey[string(e.Key)]; ok {
				continue
			}
			if e.Gone {
				e.Value = nil
			}
			byKey[string(e.Key)] = e
		}
	}
	var out []api.Entry
	for _, e := range byKey {
		out = append(out, e)
	}
	slices.SortFunc(out, func(a, b api.Entry) int { return bytes.Compare(a.Key, b.Key) })
	return out
}

// joins fails unless Join of the rows answers want.
func joins(t *testing.T, promise string, l [][]api.Entry, want []api.Entry) {
	t.Helper()
	if got := merge.Join(l...); !slices.EqualFunc(got, want, same) {
		t.Errorf("%s: Join of %s: %s; must be %s", promise, showRows(l), show(got), show(want))
	}
}

// texts are all Keys and Values of l.
func texts(l []api.Entry) [][]byte {
	var out [][]byte
	for _, e := range l {
		out = append(out, e.Key, e.Value)
	}
	return out
}

// show is l in short, for a test that fails.
func show(l []api.Entry) string {
	out := fmt.Sprintf("%d:", len(l))
	for i, e := range l {
		if i == 12 {
			return out + " .."
		}
		out += fmt.Sprintf(" %.20q=%.20q", e.Key, e.Value)
		if e.Gone {
			out += "!"
		}
	}
	return out
}

// showRows are rows in short, for a test that fails.
func showRows(l [][]api.Entry) string {
	out := fmt.Sprintf("%d rows", len(l))
	for i, row := range l {
		if i == 6 {
			return out + " .."
		}
		out += " {" + show(row) + "}"
	}
	return out
}

// behind fills the spare room of what is handed in, so that a write into it shows.
const behind = 0x5a

// roomy lays text down with spare room behind it.
func roomy(text []byte) []byte {
	whole := bytes.Repeat([]byte{behind}, len(text)+24)
	copy(whole, text)
	return whole[:len(text)]
}

// untouched fails unless b is still text, with its spare room as it was.
func untouched(t *testing.T, what string, b, text []byte) {
	t.Helper()
	if !bytes.Equal(b[:cap(b)], roomy(text)[:cap(b)]) {
		t.Errorf("R2: %s: what was handed in, or its spare room, has changed", what)
	}
}

// handedIn is a copy of l with marked room behind each text and behind the list.
func handedIn(l []api.Entry) []api.Entry {
	out := make([]api.Entry, 0, len(l)+1)
	for _, e := range l {
		out = append(out, api.Entry{Key: roomy(e.Key), Value: roomy(e.Value), Gone: e.Gone})
	}
	out[:len(l)+1][len(l)] = there("spare", "room")
	return out
}

// rowsHandedIn are such copies of rows, with marked room behind their list too.
func rowsHandedIn(l [][]api.Entry) [][]api.Entry {
	out := make([][]api.Entry, 0, len(l)+1)
	for _, row := range l {
		out = append(out, handedIn(row))
	}
	out[:len(l)+1][len(l)] = list(there("spare", "row"))
	return out
}

// unchanged fails unless handed, which handedIn made of l, is as it was made.
func unchanged(t *testing.T, what string, handed, l []api.Entry) {
	t.Helper()
	if len(handed) != len(l) {
		t.Fatalf("R2: %s: %d entries were handed in, %d are left", what, len(l), len(handed))
	}
	for i := range l {
		untouched(t, what+", a Key", handed[i].Key, l[i].Key)
		untouched(t, what+", a Value", handed[i].Value, l[i].Value)
		if handed[i].Gone != l[i].Gone {
			t.Errorf("R2: %s changed entry %d", what, i)
		}
	}
	if !same(handed[:len(l)+1][len(l)], there("spare", "room")) {
		t.Errorf("R2: %s wrote behind a list", what)
	}
}

// rowsUnchanged fails unless handed, which rowsHandedIn made of l, is as it was made.
func rowsUnchanged(t *testing.T, what string, handed, l [][]api.Entry) {
	t.Helper()
	for i := range l {
		unchanged(t, what, handed[i], l[i])
	}
	if spare := handed[:len(l)+1][len(l)]; len(spare) != 1 || !same(spare[0], there("spare", "row")) {
		t.Errorf("R2: %s wrote behind the list of rows", what)
	}
}

// spoil turns all bytes of b and of its spare room.
func spoil(b []byte) {
	b = b[:cap(b)]
	for i := range b {
		b[i] ^= 0xff
	}
}

// spoilAll turns all texts of l, and then the entries, those in its spare room too.
func spoilAll(l []api.Entry) {
	for _, s := range texts(l) {
		spoil(s)
	}
	l = l[:cap(l)]
	for i := range l {
		l[i] = there("written", "over")
	}
}

// thrownKey is a short Key of few bytes, so that many are the same and many begin with one another; a tenth has none.
func thrownKey(r *rand.Rand) []byte {
	key := make([]byte, r.Intn(10)/2)
	for i := range key {
		key[i] = "\x00\x01ab\xff"[r.Intn(5)]
	}
	return key
}

// thrown are up to most entries with thrown Keys, not in order; a Gone one may have a Value.
func thrown(r *rand.Rand, most int) []api.Entry {
	l := make([]api.Entry, r.Intn(most+1))
	for i := range l {
		l[i] = api.Entry{Key: thrownKey(r), Value: []byte(long(r.Intn(12))), Gone: r.Intn(4) == 0}
	}
	return l
}

// thrownRow is a row that is Right, of up to most entries.
func thrownRow(r *rand.Rand, most int) []api.Entry {
	l := thrown(r, most)
	slices.SortFunc(l, func(a, b api.Entry) int { return bytes.Compare(a.Key, b.Key) })
	return slices.CompactFunc(l, func(a, b api.Entry) bool { return bytes.Equal(a.Key, b.Key) })
}

// thrownRows are up to most rows that are Right, some of them without entries.
func thrownRows(r *rand.Rand, most int) [][]api.Entry {
	l := make([][]api.Entry, r.Intn(most+1))
	for i := range l {
		l[i] = thrownRow(r, r.Intn(20))
	}
	return l
}
