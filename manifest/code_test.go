package manifest_test

import (
	"bytes"
	"fmt"
	"math/rand"
	"strings"
	"testing"

	"marigraph/api"
	"marigraph/manifest"
)

// encodes fails unless Encode lays l down by the document's words, and Decode tells it back.
func encodes(t *testing.T, l manifest.List) {
	t.Helper()
	b, why := manifest.Encode(l)
	if why != api.OK || !bytes.Equal(b, laid(l)) {
		t.Errorf("P10.1: Encode of %s: %x, %v; must be %x", show(l), b, why, laid(l))
	}
	decodes(t, laid(l), l)
}

// decodes fails unless Decode of b tells l.
func decodes(t *testing.T, b []byte, l manifest.List) {
	t.Helper()
	if got, why := manifest.Decode(b); why != api.OK || !same(got, l) {
		t.Errorf("P10.1: Decode of %x: %s, %v; must be %s", b, show(got), why, show(l))
	}
}

// encodesNone fails unless Encode refuses l.
func encodesNone(t *testing.T, l manifest.List) {
	t.Helper()
	if b, why := manifest.Encode(l); why != api.ErrArg || len(b) > 0 {
		t.Errorf("P10.1: Encode of %s: %x, %v; must be refused", show(l), b, why)
	}
}

// decodesNone fails unless Decode refuses b.
func decodesNone(t *testing.T, b []byte) {
	t.Helper()
	if l, why := manifest.Decode(b); why != api.ErrForm || !empty(l) {
		t.Errorf("P10.1: Decode of %x: %s, %v; must be refused", b, show(l), why)
	}
}

// asTheDocument fails unless Encode takes l just where it may.
func asTheDocument(t *testing.T, l manifest.List) {
	t.Helper()
	if mayBe(l) {
		encodes(t, l)
	} else {
		encodesNone(t, l)
	}
}

// decodesAsTheDocument fails unless Decode takes b just where an Encode gave it.
func decodesAsTheDocument(t *testing.T, b []byte) {
	t.Helper()
	l, whole := told(b)
	if whole && mayBe(l) {
		decodes(t, b, l)
	} else {
		decodesNone(t, b)
	}
}

func TestEncodeByHand(t *testing.T) {
	for _, c := range []struct {
		l    manifest.List
		want string
	}{
		{list(0, 1), "\x00\x00\x00\x00\x00\x00\x01"},
		{list(0, 1, 0), "\x01\x00\x00\x00\x00\x00\x00\x00\x00\x01"},
		{list(0x010203, 0xfffefd, 0xa1b2c3), "\x01\xa1\xb2\xc3\x01\x02\x03\xff\xfe\xfd"},
		{list(2, 65536, 258, 1), "\x02\x00\x01\x02\x00\x00\x01\x00\x00\x02\x01\x00\x00"},
		{list(2, 65536, 1, 258), "\x02\x00\x00\x01\x00\x01\x02\x00\x00\x02\x01\x00\x00"},
		{list(top-1, top, top-2), "\x01\xff\xff\xfd\xff\xff\xfe\xff\xff\xff"},
	} {
		if b, why := manifest.Encode(c.l); string(b) != c.want || why != api.OK {
			t.Errorf("P10.1: Encode of %s: %x, %v; must be %x", show(c.l), b, why, c.want)
		}
		decodes(t, []byte(c.want), c.l)
	}
}

func TestEncodeOfWell(t *testing.T) {
	for _, l := range well() {
		if !mayBe(l) {
			t.Fatalf("a list of the tests that may not be: %s", show(l))
		}
		encodes(t, l)
	}
}

// TestEncodeOfMany: as many tables as a byte can count, and more, those too whose number's lowest byte is small again.
func TestEncodeOfMany(t *testing.T) {
	for n := range 256 {
		encodes(t, list(n, 1000, upTo(n)...))
	}
	for _, n := range []int{256, 257, 258, 300, 511, 512, 513, 65536, 65537, 1 << 20} {
		encodesNone(t, list(0, top, upTo(n)...))
	}
	encodesNone(t, list(0, top, make([]int, 256)...))
}

// TestEncodeAtTheEdges: each of the numbers at each of its edges, and next to the others.
func TestEncodeAtTheEdges(t *testing.T) {
	edges := []int{-1 << 63, -1 << 24, -1, 0, 1, 2, top - 2, top - 1, top, top + 1, top + 2, 1 << 25, 1<<32 + 1, 1<<63 - 1}
	for _, wal := range edges {
		for _, next := range edges {
			asTheDocument(t, list(wal, next))
			for _, one := range edges {
				asTheDocument(t, list(wal, next, one))
				asTheDocument(t, list(wal, next, 5, one))
				asTheDocument(t, list(wal, next, one, 5))
			}
		}
	}
}

// TestEncodeOfSmall: all lists of up to three tables with small numbers, so that each pair of them is below, the same and above.
func TestEncodeOfSmall(t *testing.T) {
	var tables [][]int
	tables = append(tables, nil)
	for from, n := 0, 0; n < 3; n++ {
		upon := tables[from:]
		from = len(tables)
		for _, l := range upon {
			for one := -1; one <= 4; one++ {
				tables = append(tables, append(append([]int{}, l...), one))
			}
		}
	}
	for _, l := range tables {
		for wal := -1; wal <= 4; wal++ {
			for next := -1; next <= 5; next++ {
				asTheDocument(t, list(wal, next, l...))
			}
		}
	}
}

// TestEncodeOfTheSameTwice: at each two places of a short list, and of one with as many tables as may be.
func TestEncodeOfTheSameTwice(t *testing.T) {
	for _, n := range []int{2, 3, 4, 9, 255} {
		for i := range n {
			for j := range i {
				if n == 255 && i != j+1 && i != n-1 && j != 0 {
					continue
				}
				l := list(0, 999, upTo(n)...)
				l.Tables[i] = l.Tables[j]
				encodesNone(t, l)
				decodesNone(t, laid(l))
			}
		}
	}
	encodesNone(t, list(0, 9, 3, 3))
	encodesNone(t, list(0, 9, 0, 0))
	encodes(t, list(3, 9, 3))
}

// TestEncodeOfNext: above all, the same as one of them, below just one of them, wherever it stands.
func TestEncodeOfNext(t *testing.T) {
	for _, n := range []int{1, 2, 3, 255} {
		for i := range n {
			l := list(0, 1000, upTo(n)...)
			l.Tables[i] = 999
			encodes(t, l)
			l.Next = 999
			encodesNone(t, l)
			decodesNone(t, laid(l))
			l.Next = 998
			encodesNone(t, l)
			decodesNone(t, laid(l))
		}
	}
	for next := range 9 {
		asTheDocument(t, list(7, next, 3, 2))
		asTheDocument(t, list(2, next, 3, 7))
	}
	encodesNone(t, list(0, 0))
	encodesNone(t, list(7, 7))
	encodesNone(t, list(7, 6))
	encodesNone(t, list(0, 0, 0))
}

func TestEncodeOfThrown(t *testing.T) {
	r := rand.New(rand.NewSource(10))
	for range 20000 {
		l := list(r.Intn(20)-1, r.Intn(24)-1)
		for range r.Intn(6) {
			l.Tables = append(l.Tables, r.Intn(22)-1)
		}
		asTheDocument(t, l)
	}
}

// TestDecodeOfWellTurned: what Encode gave, cut off at each place, with bytes more at either end, with each byte turned.
func TestDecodeOfWellTurned(t *testing.T) {
	for _, l := range well() {
		b := laid(l)
		for n := range b {
			decodesNone(t, b[:n])
		}
		for _, more := range []string{"\x00", "\x01", "\xff", "\x00\x00", "\x00\x00\x00", "\x00\x00\x01\x00\x00\x02", string(b)} {
			decodesNone(t, append(bytes.Clone(b), more...))
		}
		decodesAsTheDocument(t, append([]byte{0}, b...))
		decodesAsTheDocument(t, b[1:])
		for i := range b {
			turns := []int{0x01, 0x02, 0x80, 0xff}
			if len(b) < 20 {
				turns = all255()
			}
			for _, turn := range turns {
				turned := bytes.Clone(b)
				turned[i] ^= byte(turn)
				decodesAsTheDocument(t, turned)
			}
		}
	}
}

// all255 are all ways to turn a byte.
func all255() []int {
	var l []int
	for i := range 255 {
		l = append(l, i+1)
	}
	return l
}

func TestDecodeByHand(t *testing.T) {
	for _, s := range []string{
		"", "\x00", "\x01", "\xff", "\x00\x00\x00\x00\x00\x00", "list", "rubbish", "\x00\x00\x00\x00\x00\x00\x00", "\x00\x00\x00\x01\x00\x00\x01", "\x00\x00\x00\x02\x00\x00\x01", "\x00\xff\xff\xff\xff\xff\xff",
		"\x00\x00\x00\x00\x00\x00\x01\x00", "\x01\x00\x00\x00\x00\x00\x01", "\x00\x00\x00\x00\x00\x00\x01\x00\x00\x02", "\x01\x00\x00\x05\x00\x00\x00\x00\x00\x05", "\x01\x00\x00\x06\x00\x00\x00\x00\x00\x05",
		"\x02\x00\x00\x01\x00\x00\x01\x00\x00\x00\x00\x00\x05", "\x03\x00\x00\x01\x00\x00\x02\x00\x00\x01\x00\x00\x00\x00\x00\x05", "\x02\x00\x00\x01\x00\x00\x07\x00\x00\x00\x00\x00\x05", "\x02\x00\x00\x07\x00\x00\x01\x00\x00\x00\x00\x00\x05",
	} {
		decodesNone(t, []byte(s))
	}
	decodesNone(t, nil)
	decodesNone(t, append([]byte{0}, laid(list(0, 300, upTo(256)...))[1:]...))
	decodesNone(t, laid(list(0, 300, upTo(256)...)))
	decodesNone(t, make([]byte, 1<<20))
}

// TestDecodeOfShort: all texts of few bytes, up to those of no tables, and thrown ones that tell of one or two.
func TestDecodeOfShort(t *testing.T) {
	const letters = "\x00\x01\x02\xff"
	texts := []string{""}
	for range 7 {
		var longer []string
		for _, s := range texts {
			decodesAsTheDocument(t, []byte(s))
			for _, c := range []byte(letters) {
				longer = append(longer, s+string([]byte{c}))
			}
		}
		texts = longer
	}
	for _, s := range texts {
		decodesAsTheDocument(t, []byte(s))
	}
	r := rand.New(rand.NewSource(11))
	for range 50000 {
		b := make([]byte, 10+3*r.Intn(2))
		for i := range b {
			b[i] = letters[r.Intn(3)]
		}
		b[0] = byte(len(b)/3 - 2)
		decodesAsTheDocument(t, b)
	}
}

func TestNames(t *testing.T) {
	for n, want := range map[int]string{
		0: "0", 1: "1", 7: "7", 9: "9", 10: "10", 19: "19", 100: "100", 255: "255", 256: "256", 65536: "65536", 1000000: "1000000", top - 1: "16777214", top: "16777215", 1<<31 - 1: "2147483647",
	} {
		if got := manifest.Table(n); got != "t"+want {
			t.Errorf("P10.1: Table(%d): %q", n, got)
		}
		if got := manifest.Wal(n); got != "w"+want {
			t.Errorf("P10.1: Wal(%d): %q", n, got)
		}
	}
	for n := range 3000 {
		if manifest.Table(n) != fmt.Sprintf("t%d", n) || manifest.Wal(n) != fmt.Sprintf("w%d", n) {
			t.Errorf("P10.1: %q, %q of %d", manifest.Table(n), manifest.Wal(n), n)
		}
	}
}

// TestNamesOfAnyNumber: nothing is said of numbers that no list has, but that the calls end, and by R4 that they answer the same again.
func TestNamesOfAnyNumber(t *testing.T) {
	for _, n := range []int{-1 << 63, -1 << 31, -1, top + 1, 1<<63 - 1} {
		table, wal := manifest.Table(n), manifest.Wal(n)
		if !strings.HasPrefix(table, "t") || !strings.HasPrefix(wal, "w") || manifest.Table(n) != table || manifest.Wal(n) != wal {
			t.Errorf("P10.1: %q, %q of %d", table, wal, n)
		}
	}
}
