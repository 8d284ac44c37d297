package rat

import (
	"strconv"
	"strings"

	"marigraph/api"
)

// mostDigits is the number of MaxNumber's: no part of a number's Text has more, and so many fit into an int64.
const mostDigits = 10

// Text writes r: N, or N/D where D is above 1.
func Text(r api.Rat) string {
	if !Right(r) {
		return "?"
	}
	n := strconv.FormatInt(r.N, 10)
	if r.D == 1 {
		return n
	}
	return n + "/" + strconv.FormatInt(r.D, 10)
}

// Parse reads what Text writes, and nothing else.
func Parse(s string) (r api.Rat, e api.Errno) {
	defer func() {
		// Whatever the refusal inside was (a 0 below the line, a number too great), the text is none of a Right number.
		if recover() != nil {
			r, e = api.Rat{}, api.ErrForm
		}
	}()
	top, bottom, parted := strings.Cut(s, "/")
	d := int64(1)
	if parted {
		d = whole(bottom)
	}
	r = Must(New(whole(top), d))
	// Each number has one Text: this refuses 2/4, 1/1, -0, 01, 1/-2.
	if Text(r) != s {
		panic(api.ErrForm)
	}
	return r, api.OK
}

// whole reads decimal digits with or without a sign ahead; it panics where there is anything else.
func whole(s string) int64 {
	digits := strings.TrimPrefix(s, "-")
	if len(digits) == 0 || len(digits) > mostDigits {
		panic(api.ErrForm)
	}
	n := int64(0)
	for i := range len(digits) {
		if digits[i] < '0' || digits[i] > '9' {
			panic(api.ErrForm)
		}
		n = n*10 + int64(digits[i]-'0')
	}
	if len(digits) < len(s) {
		return -n
	}
	return n
}
