package rat_test

import (
	"fmt"
	"math"
	"math/big"
	"testing"

	"marigraph/api"
	"marigraph/rat"
)

const most = api.MaxNumber

type operation struct {
	name  string
	ours  func(a, b api.Rat) (api.Rat, api.Errno)
	exact func(z, x, y *big.Rat) *big.Rat
}

func operations() []operation {
	return []operation{
		{"Add", rat.Add, (*big.Rat).Add},
		{"Sub", rat.Sub, (*big.Rat).Sub},
		{"Mul", rat.Mul, (*big.Rat).Mul},
		{"Div", rat.Div, (*big.Rat).Quo},
	}
}

// rights are Right numbers of both signs: small ones, those at the limits, and some that share divisors.
func rights() []api.Rat {
	var all []api.Rat
	tops := []int64{0, 1, 2, 3, 5, 6, 12, 35, 46340, 46341, 65536, 1 << 30, most - 2, most - 1, most}
	bottoms := []int64{1, 2, 3, 4, 6, 7, 35, 46341, 65535, 1 << 30, most - 1, most}
	for _, n := range tops {
		for _, d := range bottoms {
			if new(big.Int).GCD(nil, nil, big.NewInt(n), big.NewInt(d)).Int64() != 1 {
				continue
			}
			all = append(all, api.Rat{N: n, D: d})
			if n > 0 {
				all = append(all, api.Rat{N: -n, D: d})
			}
		}
	}
	return all
}

// wrongs are numbers that are not Right, each for a reason of its own.
func wrongs() []api.Rat {
	return []api.Rat{
		{}, {N: 1}, {N: 0, D: 2}, {N: 0, D: -1}, {N: 2, D: 2}, {N: -2, D: 4}, {N: 1, D: -2}, {N: -1, D: -1},
		{N: most + 1, D: 1}, {N: -most - 1, D: 1}, {N: 1, D: most + 1}, {N: most, D: most},
		{N: math.MinInt64, D: 1}, {N: math.MaxInt64, D: 1}, {N: 1, D: math.MinInt64}, {N: 1, D: math.MaxInt64},
		{N: math.MinInt64, D: math.MinInt64},
	}
}

// within tells whether an exact number is one that api.Rat may hold.
func within(z *big.Rat) bool {
	limit := big.NewInt(most)
	return z.Num().CmpAbs(limit) <= 0 && z.Denom().Cmp(limit) <= 0
}

// agree fails unless the answer is the exact number, or the refusal of one beyond the limits.
func agree(t *testing.T, what string, got api.Rat, e api.Errno, z *big.Rat) {
	t.Helper()
	want, wantE := api.Rat{}, api.ErrOver
	if within(z) {
		want, wantE = api.Rat{N: z.Num().Int64(), D: z.Denom().Int64()}, api.OK
	}
	if got != want || e != wantE {
		t.Errorf("%s: %v, %d; must be %v, %d", what, got, int(e), want, int(wantE))
	}
}

func TestRight(t *testing.T) {
	for _, r := range rights() {
		if !rat.Right(r) {
			t.Errorf("P1.1: Right(%v): false", r)
		}
	}
	for _, r := range wrongs() {
		if rat.Right(r) {
			t.Errorf("P1.1: Right(%v): true", r)
		}
	}
	for n := int64(-40); n <= 40; n++ {
		for d := int64(-40); d <= 40; d++ {
			want := false
			if d > 0 {
				z := big.NewRat(n, d)
				want = z.Num().Int64() == n && z.Denom().Int64() == d
			}
			if got := rat.Right(api.Rat{N: n, D: d}); got != want {
				t.Errorf("P1.1: Right(%d/%d): %v", n, d, got)
			}
		}
	}
}

func TestNew(t *testing.T) {
	numbers := []int64{0, 1, 2, 3, 4, 6, 35, 1000003, 1 << 30, most - 1, most, most + 1, most + 2, 2 * most, 3 * most, most * most,
		1 << 62, math.MaxInt64 - 1, math.MaxInt64}
	for _, n := range numbers[:len(numbers):len(numbers)] {
		numbers = append(numbers, -n)
	}
	numbers = append(numbers, math.MinInt64, math.MinInt64+2)
	for _, n := range numbers {
		for _, d := range numbers {
			got, e := rat.New(n, d)
			what := fmt.Sprintf("P1.1: New(%d, %d)", n, d)
			if d != 0 {
				agree(t, what, got, e, big.NewRat(n, d))
			} else if got != (api.Rat{}) || e != api.ErrArg {
				t.Errorf("%s: %v, %d", what, got, int(e))
			}
		}
		got, e := rat.Of(n)
		agree(t, fmt.Sprintf("P1.1: Of(%d)", n), got, e, big.NewRat(n, 1))
	}
}

func TestExamples(t *testing.T) {
	if r, e := rat.New(4, -6); r != (api.Rat{N: -2, D: 3}) || e != api.OK {
		t.Errorf("example 1: %v, %d", r, int(e))
	}
	if r, e := rat.Add(api.Rat{N: most, D: 1}, api.Rat{N: 1, D: 1}); r != (api.Rat{}) || e != api.ErrOver {
		t.Errorf("example 2: %v, %d", r, int(e))
	}
	if r, e := rat.Add(api.Rat{N: 1, D: 2}, api.Rat{N: 1, D: 3}); r != (api.Rat{N: 5, D: 6}) || e != api.OK {
		t.Errorf("run: %v, %d", r, int(e))
	}
}

func TestOperations(t *testing.T) {
	all := rights()
	for _, o := range operations() {
		for _, a := range all {
			for _, b := range all {
				got, e := o.ours(a, b)
				what := fmt.Sprintf("P1.2: %s(%v, %v)", o.name, a, b)
				if o.name == "Div" && b.N == 0 {
					if got != (api.Rat{}) || e != api.ErrArg {
						t.Errorf("%s: %v, %d", what, got, int(e))
					}
					continue
				}
				agree(t, what, got, e, o.exact(new(big.Rat), big.NewRat(a.N, a.D), big.NewRat(b.N, b.D)))
			}
		}
	}
}

func TestOperationsOfWrongOnes(t *testing.T) {
	good := []api.Rat{{N: 0, D: 1}, {N: 1, D: 1}, {N: -2, D: 3}, {N: most, D: 1}}
	for _, o := range operations() {
		for _, w := range wrongs() {
			for _, other := range append(good, wrongs()...) {
				for _, p := range [][2]api.Rat{{w, other}, {other, w}} {
					if got, e := o.ours(p[0], p[1]); got != (api.Rat{}) || e != api.ErrArg {
						t.Errorf("P1.2: %s(%v, %v): %v, %d", o.name, p[0], p[1], got, int(e))
					}
				}
			}
		}
	}
}

func TestCmp(t *testing.T) {
	all := rights()
	for _, a := range all {
		for _, b := range all {
			if got, want := rat.Cmp(a, b), big.NewRat(a.N, a.D).Cmp(big.NewRat(b.N, b.D)); got != want {
				t.Errorf("P1.2: Cmp(%v, %v): %d", a, b, got)
			}
		}
	}
	for _, w := range wrongs() {
		for _, a := range all {
			if rat.Cmp(w, a) != -1 || rat.Cmp(a, w) != 1 {
				t.Errorf("P1.2: Cmp of %v, which is not Right, and %v", w, a)
			}
		}
		for _, v := range wrongs() {
			if rat.Cmp(w, v) != 0 {
				t.Errorf("P1.2: Cmp(%v, %v), both not Right", w, v)
			}
		}
	}
}

func TestMust(t *testing.T) {
	for _, r := range append(wrongs(), rights()...) {
		if got := rat.Must(r, api.OK); got != r {
			t.Errorf("P1.4: Must(%v, OK): %v", r, got)
		}
	}
	refusals := []api.Errno{api.ErrArg, api.ErrLong, api.ErrForm, api.ErrOver, api.ErrName, -1, 2, 99}
	for _, e := range refusals {
		for _, r := range []api.Rat{{}, {N: 2, D: 3}} {
			if told := toldByMust(r, e); told != e {
				t.Errorf("P1.4: Must(%v, %d): panic of %v", r, int(e), told)
			}
		}
	}
	sum := rat.Must(rat.Mul(rat.Must(rat.New(1, 2)), rat.Must(rat.Of(6))))
	if sum != (api.Rat{N: 3, D: 1}) {
		t.Errorf("P1.4: a chain of Must: %v", sum)
	}
}

// toldByMust is what Must panics with; nil: it does not.
func toldByMust(r api.Rat, e api.Errno) (told any) {
	defer func() { told = recover() }()
	rat.Must(r, e)
	return nil
}
