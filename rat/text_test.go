package rat_test

import (
	"fmt"
	"strings"
	"testing"

	"marigraph/api"
	"marigraph/rat"
)

// written is a Right number's Text, worked out on its own.
func written(r api.Rat) string {
	if r.D == 1 {
		return fmt.Sprintf("%d", r.N)
	}
	return fmt.Sprintf("%d/%d", r.N, r.D)
}

func TestText(t *testing.T) {
	for _, r := range rights() {
		if got := rat.Text(r); got != written(r) {
			t.Errorf("P1.3: Text(%v): %q", r, got)
		}
		if back, e := rat.Parse(written(r)); back != r || e != api.OK {
			t.Errorf("P1.3: Parse(%q): %v, %d", written(r), back, int(e))
		}
	}
	for _, r := range wrongs() {
		if got := rat.Text(r); got != "?" {
			t.Errorf("P1.3: Text(%v), which is not Right: %q", r, got)
		}
	}
}

// TestParseShort goes through all short texts of some letters: those of Right numbers are read, the rest is refused.
func TestParseShort(t *testing.T) {
	const letters, longest = "-/+ 0126", 5
	texts := map[string]api.Rat{}
	for n := int64(-9999); n <= 99999; n++ {
		for d := int64(1); d <= 999; d++ {
			r := api.Rat{N: n, D: d}
			if d > 1 && (n < -99 || n > 999) {
				break
			}
			if rat.Right(r) {
				texts[written(r)] = r
			}
		}
	}
	var try func(s string)
	try = func(s string) {
		want, ok := texts[s]
		wantE := api.OK
		if !ok {
			wantE = api.ErrForm
		}
		if got, e := rat.Parse(s); got != want || e != wantE {
			t.Errorf("P1.3: Parse(%q): %v, %d", s, got, int(e))
		}
		for k := 0; k < len(letters) && len(s) < longest; k++ {
			try(s + letters[k:k+1])
		}
	}
	try("")
}

func TestParseWrong(t *testing.T) {
	for _, s := range []string{
		"2147483648", "-2147483648", "1/2147483648", "2147483648/2147483647", "4294967294/4294967292",
		"9999999999", "10000000000", "18446744073709551617", "1/18446744073709551618", "4294967297/4294967298",
		"9223372036854775808", "-9223372036854775808", "9223372036854775807/9223372036854775807",
		"0000000000", "00000000001", "1/00000000002", "--1", "1/--2", "-1/-2", "2147483647/2147483647",
		"1_0", "0x1", "1e3", "1.5", ".5", "?", "NaN", "1\n", "\t1", "1\x00", "\x00", "\xff\xfe", "\u0661", "\uff11", "1\u20442",
		"1//2", "//", "1/2/", "/1/2", "1:0", "1;2", "9:", ":",
		strings.Repeat("1", 100000), strings.Repeat("0", 100000) + "1", strings.Repeat("-", 100000), strings.Repeat("/", 100000),
	} {
		if r, e := rat.Parse(s); r != (api.Rat{}) || e != api.ErrForm {
			t.Errorf("P1.3: Parse(%.40q): %v, %d", s, r, int(e))
		}
	}
}
