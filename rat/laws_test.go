package rat_test

import (
	"testing"

	"marigraph/api"
	"marigraph/rat"
)

type result struct {
	r api.Rat
	e api.Errno
}

// sum works out an expression of Musts; a refusal inside ends it.
func sum(work func() api.Rat) (out result) {
	defer func() {
		if e, ok := recover().(api.Errno); ok {
			out = result{e: e}
		}
	}()
	return result{r: work()}
}

// same fails where both sides of a law were answered and differ; it tells whether both were.
func same(t *testing.T, law string, left, right func() api.Rat, of ...api.Rat) bool {
	t.Helper()
	l, r := sum(left), sum(right)
	if l.e != api.OK || r.e != api.OK {
		return false
	}
	if l.r != r.r || !rat.Right(l.r) {
		t.Errorf("P1.5: %s of %v: %v and %v", law, of, l.r, r.r)
	}
	return true
}

func add(a, b api.Rat) api.Rat { return rat.Must(rat.Add(a, b)) }
func sub(a, b api.Rat) api.Rat { return rat.Must(rat.Sub(a, b)) }
func mul(a, b api.Rat) api.Rat { return rat.Must(rat.Mul(a, b)) }
func div(a, b api.Rat) api.Rat { return rat.Must(rat.Div(a, b)) }

func TestLawsOfOne(t *testing.T) {
	zero, one := api.Rat{N: 0, D: 1}, api.Rat{N: 1, D: 1}
	for _, a := range rights() {
		itself := func() api.Rat { return a }
		nought := func() api.Rat { return zero }
		laws := []bool{
			same(t, "a + 0 = a", func() api.Rat { return add(a, zero) }, itself, a),
			same(t, "a - 0 = a", func() api.Rat { return sub(a, zero) }, itself, a),
			same(t, "a - a = 0", func() api.Rat { return sub(a, a) }, nought, a),
			same(t, "a * 1 = a", func() api.Rat { return mul(a, one) }, itself, a),
			same(t, "a * 0 = 0", func() api.Rat { return mul(a, zero) }, nought, a),
			same(t, "a / 1 = a", func() api.Rat { return div(a, one) }, itself, a),
			same(t, "0 - (0 - a) = a", func() api.Rat { return sub(zero, sub(zero, a)) }, itself, a),
			a.N == 0 || same(t, "a / a = 1", func() api.Rat { return div(a, a) }, func() api.Rat { return one }, a),
			a.N == 0 || same(t, "1 / (1 / a) = a", func() api.Rat { return div(one, div(one, a)) }, itself, a),
		}
		for k, answered := range laws {
			if !answered {
				t.Errorf("P1.5: law %d of %v is refused", k, a)
			}
		}
	}
}

func TestLawsOfTwo(t *testing.T) {
	all, tried := rights(), 0
	for _, a := range all {
		for _, b := range all {
			itself := func() api.Rat { return a }
			for _, answered := range []bool{
				same(t, "a + b = b + a", func() api.Rat { return add(a, b) }, func() api.Rat { return add(b, a) }, a, b),
				same(t, "a * b = b * a", func() api.Rat { return mul(a, b) }, func() api.Rat { return mul(b, a) }, a, b),
				same(t, "(a + b) - b = a", func() api.Rat { return sub(add(a, b), b) }, itself, a, b),
				same(t, "(a * b) / b = a", func() api.Rat { return div(mul(a, b), b) }, itself, a, b),
			} {
				if answered {
					tried++
				}
			}
		}
	}
	if tried < len(all)*len(all)/4 {
		t.Errorf("P1.5: only %d laws were answered", tried)
	}
}

func TestLawsOfThree(t *testing.T) {
	all, tried := rights(), 0
	var few []api.Rat
	for k := 0; k < len(all); k += 5 {
		few = append(few, all[k])
	}
	for _, a := range few {
		for _, b := range few {
			for _, c := range few {
				for _, answered := range []bool{
					same(t, "(a + b) + c = a + (b + c)", func() api.Rat { return add(add(a, b), c) }, func() api.Rat { return add(a, add(b, c)) }, a, b, c),
					same(t, "(a * b) * c = a * (b * c)", func() api.Rat { return mul(mul(a, b), c) }, func() api.Rat { return mul(a, mul(b, c)) }, a, b, c),
					same(t, "a * (b + c) = a * b + a * c", func() api.Rat { return mul(a, add(b, c)) }, func() api.Rat { return add(mul(a, b), mul(a, c)) }, a, b, c),
				} {
					if answered {
						tried++
					}
				}
			}
		}
	}
	if tried < len(few)*len(few) {
		t.Errorf("P1.5: only %d laws were answered", tried)
	}
}
