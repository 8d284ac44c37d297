package table_test

import (
	"bytes"
	"fmt"
	"math/rand"
	"slices"
	"strings"
	"testing"

	"marigraph/api"
	"marigraph/block"
	"marigraph/table"
)

func built(t *testing.T, l ...api.Entry) []byte {
	t.Helper()
	b, why := table.Build(l...)
	if why != api.OK {
		t.Fatalf("P7.1: Build of %d entries: %v", len(l), why)
	}
	return b
}

func TestOpenOfNothing(t *testing.T) {
	for _, none := range [][]byte{nil, {}} {
		if x, why := table.Open(none); x != nil || why != api.ErrForm {
			t.Errorf("P7.2: Open of nothing: %v", why)
		}
	}
	refuses(t, "nothing, with room behind it", nil)
}

// TestCutOff cuts tables off at each place, with the rest of them in the spare room and without.
func TestCutOff(t *testing.T) {
	for _, n := range []int{1, 8, 9, 20} {
		b := built(t, many(n)...)
		for i := range b {
			refuses(t, fmt.Sprintf("a table cut off at %d", i), b[:i])
			if x, why := table.Open(b[:i]); x != nil || why != api.ErrForm {
				t.Errorf("R5: Open read what stands behind %d bytes: %v", i, why)
			}
			refuses(t, fmt.Sprintf("a table without its first %d bytes", i+1), b[i+1:])
			refuses(t, fmt.Sprintf("a table without byte %d", i), slices.Delete(bytes.Clone(b), i, i+1))
		}
	}
}

func TestMoreBytes(t *testing.T) {
	for _, n := range []int{1, 8, 9, 20} {
		b := built(t, many(n)...)
		for c := range 256 {
			refuses(t, fmt.Sprintf("a byte %d behind a table", c), append(bytes.Clone(b), byte(c)))
			refuses(t, fmt.Sprintf("a byte %d ahead of a table", c), append([]byte{byte(c)}, b...))
		}
		refuses(t, "a table twice", slices.Concat(b, b))
		refuses(t, "a table with mari behind it", slices.Concat(b, []byte("mari")))
		for i := range b {
			asPlain(t, fmt.Sprintf("a table with a byte more at %d", i), slices.Insert(bytes.Clone(b), i, b[i]))
			asPlain(t, fmt.Sprintf("a table with a byte 0 more at %d", i), slices.Insert(bytes.Clone(b), i, 0))
		}
	}
}

// TestEachByteTurned turns each byte of some tables to each other one: that is refused, unless it is a table of other entries.
func TestEachByteTurned(t *testing.T) {
	lists := [][]api.Entry{
		{gone("k")}, {there("k", "v")}, {there("ab", "1"), gone("ac"), there("b", "")},
		{gone("a"), there("b", ""), gone("c"), gone("d"), gone("e"), gone("f"), gone("g"), gone("h"), there("i", "v"), gone("ia")},
		many(17),
	}
	for _, l := range lists {
		b := built(t, l...)
		for i := range b {
			for c := range 256 {
				turned := bytes.Clone(b)
				turned[i] = byte(c)
				asPlain(t, fmt.Sprintf("a table of %d with byte %d turned to %d", len(l), i, c), turned)
			}
		}
	}
}

// TestWrongBlocks: all that stands around the blocks is as Build lays it down, but it lays down no such blocks.
func TestWrongBlocks(t *testing.T) {
	l := many(255)
	of := func(from, to int) string { return blockOf(l[from:to]...) }
	asIs := right(of(0, 8), of(8, 16), of(16, 17))
	tells(t, "the test's own table", asIs.laid(), l[:17])
	for what, blocks := range map[string][]string{
		"no blocks":                              {},
		"a block of seven ahead of one":          {of(0, 7), of(7, 15)},
		"a block of seven ahead of one of one":   {of(0, 7), of(7, 8)},
		"a block of seven between two":           {of(0, 8), of(8, 15), of(15, 23)},
		"a block of one ahead of one":            {of(0, 1), of(1, 9)},
		"two blocks of one":                      {of(0, 1), of(1, 2)},
		"blocks of four":                         {of(0, 4), of(4, 8), of(8, 12)},
		"blocks of seven and of nine":            {of(0, 7), of(7, 16), of(16, 17)},
		"a block of nine":                        {of(0, 9)},
		"a block of nine, the first":             {of(0, 9), of(9, 17)},
		"a block of nine, the last":              {of(0, 8), of(8, 17)},
		"a block of sixteen":                     {of(0, 16)},
		"a block of sixteen ahead of one":        {of(0, 16), of(16, 17)},
		"a block of 255":                         {of(0, 255)},
		"the same block twice":                   {of(0, 8), of(0, 8)},
		"the same block of one twice":            {of(0, 1), of(0, 1)},
		"blocks turned round":                    {of(8, 16), of(0, 8), of(16, 17)},
		"a last block that stands ahead":         {of(0, 8), of(8, 16), of(3, 4)},
		"a last block with the last Key":         {of(0, 8), of(7, 8)},
		"a last block with a beginning of it":    {of(0, 8), blockOf(gone("0000"))},
		"a last block that is only partly later": {of(0, 8), of(7, 12)},
		"a block of no bytes, the first":         {"", of(0, 8)},
		"a block of no bytes, the last":          {of(0, 8), ""},
		"a block of no bytes between two":        {of(0, 8), "", of(8, 9)},
		"a block of no bytes alone":              {""},
		"blocks of no bytes":                     {"", "", ""},
		"a block with no Keys":                   {"\x00"},
		"a byte behind a block":                  {of(0, 8) + "\x00", of(8, 9)},
		"a byte ahead of a block":                {of(0, 8), "\x00" + of(8, 9)},
		"two blocks told as one":                 {of(0, 8) + of(8, 16), of(16, 17)},
		"a block cut off":                        {of(0, 8), of(8, 9)[1:]},
		"a block that block.Build gives no one":  {"\x00\x01a\x02\x00\x00\x01"},
		"blocks that are one, parted":            {of(0, 8)[:10], of(0, 8)[10:]},
	} {
		refuses(t, what, right(blocks...).laid())
	}
	for n := 1; n <= 24; n++ {
		for ahead := 0; ahead+n <= 24; ahead++ { // three blocks: of ahead, of n, of what is left
			blocks := []string{of(ahead, ahead+n)}
			if ahead > 0 {
				blocks = append([]string{of(0, ahead)}, blocks...)
			}
			if ahead+n < 24 {
				blocks = append(blocks, of(ahead+n, 24))
			}
			asPlain(t, fmt.Sprintf("blocks of %d, %d and %d", ahead, n, 24-ahead-n), right(blocks...).laid())
		}
	}
}

// TestWrongIndex: the blocks are as Build lays them down, but not what tells of them.
func TestWrongIndex(t *testing.T) {
	l := many(17)
	blocks := blocksOf(l)
	a, b, c := len(blocks[0]), len(blocks[1]), len(blocks[2])
	for what, change := range map[string]func(p *parts){
		"no number of blocks":                  func(p *parts) { p.count, p.lengths = 0, nil },
		"a number 0, with lengths":             func(p *parts) { p.count = 0 },
		"a number that is one too few":         func(p *parts) { p.count = 2 },
		"a number that is one too many":        func(p *parts) { p.count = 4 },
		"a number with its bytes turned":       func(p *parts) { p.count = 3 << 8 },
		"a number 65535":                       func(p *parts) { p.count = 65535 },
		"a length too few, told so":            func(p *parts) { p.count, p.lengths = 2, p.lengths[:2] },
		"a length too few":                     func(p *parts) { p.lengths = p.lengths[:2] },
		"a length 0 more, told so":             func(p *parts) { p.count, p.lengths = 4, append(p.lengths, 0) },
		"a length 0 more, ahead, told so":      func(p *parts) { p.count, p.lengths = 4, []int{0, a, b, c} },
		"a length more":                        func(p *parts) { p.lengths = append(p.lengths, c) },
		"a byte from the first to the second":  func(p *parts) { p.lengths = []int{a - 1, b + 1, c} },
		"a byte from the second to the first":  func(p *parts) { p.lengths = []int{a + 1, b - 1, c} },
		"lengths turned round":                 func(p *parts) { p.lengths = []int{b, c, a} },
		"one length for two":                   func(p *parts) { p.count, p.lengths = 2, []int{a + b, c} },
		"one length for all":                   func(p *parts) { p.count, p.lengths = 1, []int{a + b + c} },
		"two lengths for one":                  func(p *parts) { p.count, p.lengths = 4, []int{a - 7, 7, b, c} },
		"a last length too great":              func(p *parts) { p.lengths[2]++ },
		"a last length too small":              func(p *parts) { p.lengths[2]-- },
		"a last length 0":                      func(p *parts) { p.lengths[2] = 0 },
		"a first length of all bits":           func(p *parts) { p.lengths[0] = 1<<32 - 1 },
		"a last length of all bits":            func(p *parts) { p.lengths[2] = 1<<32 - 1 },
		"a length with its highest bit":        func(p *parts) { p.lengths[1] |= 1 << 31 },
		"lengths that add up but for 2^32":     func(p *parts) { p.lengths = []int{a, 1<<32 - 1, b + c + 1} },
		"an index a byte too early":            func(p *parts) { p.begin-- },
		"an index a byte too late":             func(p *parts) { p.begin++ },
		"an index at 0":                        func(p *parts) { p.begin = 0 },
		"an index at the second block":         func(p *parts) { p.begin = a },
		"an index at the first length":         func(p *parts) { p.begin += 2 },
		"an index at the footer":               func(p *parts) { p.begin += 2 + 4*3 },
		"an index a byte ahead of the footer":  func(p *parts) { p.begin += 2 + 4*3 - 1 },
		"an index within the footer":           func(p *parts) { p.begin += 2 + 4*3 + 1 },
		"an index at the end":                  func(p *parts) { p.begin += 2 + 4*3 + 8 },
		"an index behind the end":              func(p *parts) { p.begin += 2 + 4*3 + 9 },
		"an index at 2^31":                     func(p *parts) { p.begin = 1 << 31 },
		"an index at 2^32 - 1":                 func(p *parts) { p.begin = 1<<32 - 1 },
		"a byte between blocks and index":      func(p *parts) { p.blocks = append(p.blocks, "\x00"); p.begin++ },
		"a byte between, not told":             func(p *parts) { p.blocks = append(p.blocks, "\x00") },
		"a block more than the index tells":    func(p *parts) { p.blocks = append(p.blocks, blockOf(gone("9"))) },
		"a block more, the index behind it":    func(p *parts) { p.blocks = append(p.blocks, blockOf(gone("9"))); p.begin += 7 },
		"a block less":                         func(p *parts) { p.blocks = p.blocks[:2] },
		"a block less, the index behind two":   func(p *parts) { p.blocks = p.blocks[:2]; p.begin -= c },
		"no blocks, but lengths of three":      func(p *parts) { p.blocks, p.begin = nil, 0 },
		"marj":                                 func(p *parts) { p.mark = "marj" },
		"Mari":                                 func(p *parts) { p.mark = "Mari" },
		"iram":                                 func(p *parts) { p.mark = "iram" },
		"mar":                                  func(p *parts) { p.mark = "mar" },
		"marii":                                func(p *parts) { p.mark = "marii" },
		"mari twice":                           func(p *parts) { p.mark = "marimari" },
		"no mari":                              func(p *parts) { p.mark = "" },
		"mari and a byte":                      func(p *parts) { p.mark = "mari\x00" },
		"a byte between the index and mari":    func(p *parts) { p.mark = "\x00mari" },
		"four bytes between the footer's ones": func(p *parts) { p.mark = "\x00\x00\x00\x00mari" },
	} {
		p := right(slices.Clone(blocks)...)
		tells(t, "the test's own table", p.laid(), l)
		change(&p)
		refuses(t, what, p.laid())
	}
}

// TestTooManyEntries: tables that are right but for the number of their entries.
func TestTooManyEntries(t *testing.T) {
	l := many(65544)
	for n, ok := range map[int]bool{65528: true, 65535: true, 65536: false, 65537: false, 65544: false} {
		b := right(blocksOf(l[:n])...).laid()
		if x, why := table.Open(b); (x != nil) != ok || (why == api.OK) != ok || !ok && why != api.ErrForm {
			t.Errorf("P7.2: Open of %d entries: %v", n, why)
		}
	}
	var blocks []string
	for i := range 65535 {
		blocks = append(blocks, blockOf(l[i]))
	}
	refuses(t, "65535 blocks of one", right(blocks...).laid())
	refuses(t, "65535 blocks of no bytes", right(make([]string, 65535)...).laid())
}

func TestTextsThatAreNoTables(t *testing.T) {
	zeros := func(n int) string { return strings.Repeat("\x00", n) }
	for _, s := range []string{
		"mari", "\x00mari", zeros(4) + "mari", zeros(6) + "mari", zeros(10) + "mari", zeros(12) + "mari", "marimari", "marimarimari", "\xff\xff\xff\xffmari", "\x00\x01" + zeros(8) + "mari", "\x00\x01" + zeros(3) + "\x01" + zeros(4) + "mari", "\xff\xff" + zeros(4) + "mari",
		zeros(1 << 20), strings.Repeat("\x01", 1<<20) + zeros(4) + "mari", strings.Repeat("\xff", 1<<20), strings.Repeat("mari", 1<<18), zeros(2+4*65535) + zeros(4) + "mari", "\xff\xff" + zeros(4*65535) + zeros(4) + "mari",
	} {
		refuses(t, fmt.Sprintf("%.20q", s), []byte(s))
	}
	b, _ := block.Build(many(8)...)
	refuses(t, "a block", b)
}

func TestThrownTexts(t *testing.T) {
	r := rand.New(rand.NewSource(72))
	for range 4000 {
		b := built(t, thrown(r, 30)...)
		for range r.Intn(3) {
			b[r.Intn(len(b))] = byte(r.Intn(8))
		}
		for range r.Intn(2) { // the index and the footer are hit more often so
			b[len(b)-1-r.Intn(min(20, len(b)))] += byte(1 + r.Intn(3))
		}
		switch at := r.Intn(len(b)); r.Intn(4) {
		case 0:
			b = slices.Delete(b, at, at+1)
		case 1:
			b = slices.Insert(b, at, byte(r.Intn(4)))
		}
		asPlain(t, "a thrown text", b)
	}
	for range 4000 {
		b := make([]byte, r.Intn(40))
		r.Read(b)
		asPlain(t, "thrown bytes", append(b, 0, 0, 0, byte(r.Intn(len(b)+2)), 'm', 'a', 'r', 'i'))
	}
}
