package merge_test

import (
	"bytes"
	"fmt"
	"math/rand"
	"slices"
	"testing"

	"marigraph/api"
	"marigraph/mem"
	"marigraph/merge"
)

func TestRunAndExamplesOfTheDocument(t *testing.T) {
	got := merge.Join(list(there("a", "2")), list(there("a", "1"), there("b", "1")))
	if len(got) != 2 || !same(got[0], there("a", "2")) || !same(got[1], there("b", "1")) {
		t.Errorf("P9.1: Join({a 2}, {a 1, b 1}): %s; must be a 2, b 1", show(got))
	}
	if got := merge.Join(); len(got) != 0 {
		t.Errorf("P9.1: Join of none: %s; must be nothing", show(got))
	}
	if got := merge.Live(list(gone("a"))); len(got) != 0 {
		t.Errorf("P9.1: Live of a Gone one: %s; must be nothing", show(got))
	}
}

func TestJoinByHand(t *testing.T) {
	a := list(there("b", "1"), gone("d"), there("f", "3"))
	b := list(there("a", "4"), there("b", "5"), there("d", "6"), gone("f"), there("g", "7"))
	for _, c := range []struct {
		rows [][]api.Entry
		want []api.Entry
	}{
		{nil, nil},
		{rows(), nil},
		{rows(nil), nil},
		{rows(list()), nil},
		{rows(nil, list(), nil, list()), nil},
		{rows(a), a},
		{rows(b), b},
		{rows(nil, a), a},
		{rows(a, list()), a},
		{rows(list(), nil, a, nil, list()), a},
		{rows(a, a), a},
		{rows(a, a, a, nil, a), a},
		{rows(a, b), list(there("a", "4"), there("b", "1"), gone("d"), there("f", "3"), there("g", "7"))},
		{rows(b, a), b},
		{rows(a, nil, b, a), list(there("a", "4"), there("b", "1"), gone("d"), there("f", "3"), there("g", "7"))},
		{rows(list(there("k", "1")), list(there("k", "2")), list(there("k", "3"))), list(there("k", "1"))},
		{rows(list(there("k", "")), list(there("k", "2"))), list(there("k", ""))},
		{rows(list(gone("k")), list(there("k", "2"))), list(gone("k"))},
		{rows(list(there("k", "1")), list(gone("k"))), list(there("k", "1"))},
		{rows(list(there("k", "1")), list(gone("k")), list(there("k", "3"))), list(there("k", "1"))},
		{rows(list(gone("k")), list(there("k", "2")), list(gone("k"))), list(gone("k"))},
		{rows(list(gone("k")), list(gone("k"))), list(gone("k"))},
		{rows(list(goneWith("k", "not seen")), list(there("k", "2"))), list(gone("k"))},
		{rows(list(there("k", "1")), list(goneWith("k", "not seen"))), list(there("k", "1"))},
		{rows(list(there("z", "new")), list(there("a", "old"))), list(there("a", "old"), there("z", "new"))},
		{rows(list(there("a", "new")), list(there("z", "old"))), list(there("a", "new"), there("z", "old"))},
	} {
		joins(t, "P9.1", c.rows, c.want)
	}
}

// TestJoinOfKeysOfNoBytes: such a Key is one like others, ahead of all.
func TestJoinOfKeysOfNoBytes(t *testing.T) {
	for _, c := range []struct {
		rows [][]api.Entry
		want []api.Entry
	}{
		{rows(list(there("", ""))), list(there("", ""))},
		{rows(list(api.Entry{})), list(api.Entry{})},
		{rows(list(gone(""))), list(gone(""))},
		{rows(list(there("", "1")), list(there("", "2"))), list(there("", "1"))},
		{rows(list(api.Entry{}), list(there("", "2"))), list(there("", ""))},
		{rows(list(gone("")), list(there("", "2"))), list(gone(""))},
		{rows(nil, list(there("", "2")), list(gone(""))), list(there("", "2"))},
		{rows(list(there("a", "1")), list(there("", "2"))), list(there("", "2"), there("a", "1"))},
		{rows(list(there("\x00", "1")), list(there("", "2"), there("\x00", "3"))), list(there("", "2"), there("\x00", "1"))},
		{rows(list(there("", "1"), gone("a")), list(there("a", "2")), list(there("", "3"), there("b", "4"))), list(there("", "1"), gone("a"), there("b", "4"))},
	} {
		joins(t, "P9.1", c.rows, c.want)
	}
}

// begun are entries whose Keys begin one another, or stand at the ends of what a byte can be.
func begun() []api.Entry {
	return list(there("", "0"), there("\x00", "1"), gone("\x00\x00"), there("a", "4"), gone("a\x00"), there("aa", "5"), there("aaa", ""), there("aab", "6"), gone("ab"), there("b", "7"), there(long(255), "8"), there(long(256), "9"), there(long(256)+"\xff", "10"), there("\x7f", "2"), there("\x80", "3"), there("\xff", "11"), gone("\xff\x00"), there("\xff\xff", "12"))
}

// TestJoinOfKeysThatBeginOthers parts such entries among two rows, each in turn.
func TestJoinOfKeysThatBeginOthers(t *testing.T) {
	want := begun()
	for n := 1; n <= len(want); n++ {
		var parted [2][]api.Entry
		for i, e := range want {
			parted[i/n%2] = append(parted[i/n%2], e)
		}
		joins(t, "P9.1", rows(parted[0], parted[1]), want)
		joins(t, "P9.1", rows(parted[1], parted[0]), want)
		joins(t, "P9.1", rows(parted[1], want, parted[0]), want)
	}
	var each [][]api.Entry
	for _, e := range want {
		each = append(each, list(e))
	}
	joins(t, "P9.1", each, want)
	slices.Reverse(each)
	joins(t, "P9.1", each, want)
}

// TestJoinOfEachPattern lays three Keys into three rows in each way: a Key is in a row, Gone there, or not in it.
func TestJoinOfEachPattern(t *testing.T) {
	const places = 9
	patterns := 1
	for range places {
		patterns *= 3
	}
	for pattern := range patterns {
		l := make([][]api.Entry, 3)
		left := pattern
		for place := range places {
			key, row := string(rune('a'+place%3)), place/3
			switch left % 3 {
			case 1:
				l[row] = append(l[row], there(key, fmt.Sprint(row)))
			case 2:
				l[row] = append(l[row], gone(key))
			}
			left /= 3
		}
		joins(t, "P9.1", l, plainJoin(l))
	}
}

// TestJoinOfOneKeyInManyRows: the first row that has the Key tells the entry, whatever stands in the rows behind it, and however many there are.
func TestJoinOfOneKeyInManyRows(t *testing.T) {
	for n := 1; n <= 40; n++ {
		for first := range n {
			l := make([][]api.Entry, n)
			for i := first; i < n; i++ {
				l[i] = list(there("k", fmt.Sprint(i)))
				if (i-first)%3 == first%3 {
					l[i] = list(gone("k"))
				}
			}
			joins(t, "P9.1", l, l[first])
			around := slices.Clone(l)
			for i := range around {
				around[i] = slices.Concat(list(there("a", fmt.Sprint(i))), l[i], list(there("z", fmt.Sprint(i))))
			}
			joins(t, "P9.1", around, list(there("a", "0"), l[first][0], there("z", "0")))
		}
	}
}

// TestJoinOfAllSomeOrNone joins rows that have all, some or none of each other's Keys.
func TestJoinOfAllSomeOrNone(t *testing.T) {
	all := ascending(60)
	old := slices.Clone(all)
	for i := range old {
		old[i] = api.Entry{Key: all[i].Key, Value: []byte("old"), Gone: i%5 == 0}
	}
	for _, ends := range [][4]int{{0, 60, 0, 60}, {0, 30, 30, 60}, {30, 60, 0, 30}, {0, 40, 20, 60}, {20, 60, 0, 40}, {0, 60, 20, 40}, {20, 40, 0, 60}, {0, 1, 59, 60}, {59, 60, 0, 1}, {0, 60, 59, 60}, {0, 60, 0, 1}} {
		l := rows(all[ends[0]:ends[1]], old[ends[2]:ends[3]])
		joins(t, "P9.1", l, plainJoin(l))
	}
	for step := 1; step < 10; step++ {
		l := make([][]api.Entry, step)
		for i := range all {
			l[i%step] = append(l[i%step], all[i])
		}
		joins(t, "P9.1", l, all)
		joins(t, "P9.1", append(l, old), all)
		joins(t, "P9.1", slices.Concat(rows(old), l), plainJoin(rows(old)))
	}
}

// TestJoinIsAsManyPuts: what rows say, from the oldest on, is what a Mem says into which they were put.
func TestJoinIsAsManyPuts(t *testing.T) {
	r := rand.New(rand.NewSource(91))
	for range 500 {
		l := thrownRows(r, 8)
		m := mem.New()
		for _, row := range slices.Backward(l) {
			m.Put(row...)
		}
		joins(t, "P9.1", l, m.All())
	}
}

func TestJoinOfThrownRows(t *testing.T) {
	r := rand.New(rand.NewSource(92))
	for range 5000 {
		l := thrownRows(r, 12)
		want := plainJoin(l)
		joins(t, "P9.1", l, want)
		if got := merge.Join(l...); !merge.Right(got) {
			t.Fatalf("P9.1: Join of %s: the Keys of %s do not rise", showRows(l), show(got))
		}
	}
}

// TestJoinOfMany joins long rows, and many rows: it must end soon.
func TestJoinOfMany(t *testing.T) {
	all := ascending(100000)
	joins(t, "P9.1", rows(all), all)
	joins(t, "P9.1", rows(all, all), all)
	joins(t, "P9.1", rows(all[:50000], all[25000:]), all)
	var single [][]api.Entry
	for i := range all {
		single = append(single, all[i:i+1])
	}
	joins(t, "P9.1", single, all)
	slices.Reverse(single)
	joins(t, "P9.1", single, all)
	joins(t, "P9.1", make([][]api.Entry, 100000), nil)
	one := make([][]api.Entry, 100000)
	for i := range one {
		one[i] = list(there("k", fmt.Sprint(i)))
	}
	joins(t, "P9.1", one, one[0])
	joins(t, "P9.1", slices.Repeat(rows(all[:1000]), 100), all[:1000])
}

// TestJoinOfLongTexts: no limit is named, so texts of any length stay whole.
func TestJoinOfLongTexts(t *testing.T) {
	value := string(bytes.Repeat([]byte("value"), 20000))
	newer := list(there(long(70000), value), gone(long(70001)))
	older := list(there(long(69999), ""), there(long(70000), "old"), there(long(70001), value), there(long(70002), value))
	joins(t, "P9.1", rows(newer, older), list(older[0], newer[0], newer[1], older[3]))
}

// wrongRows are rows of which at least one is not Right.
func wrongRows() [][][]api.Entry {
	falling := ascending(30)
	slices.Reverse(falling)
	twice := slices.Repeat(list(there("k", "1"), gone("k")), 5)
	return [][][]api.Entry{
		rows(list(there("b", ""), there("a", ""))),
		rows(list(there("a", "1"), there("a", "2"))),
		rows(list(there("a", "1"), gone("a")), list(there("a", "2"))),
		rows(list(there("b", ""), there("a", "")), list(there("a", ""), there("a", ""))),
		rows(falling),
		rows(falling, ascending(30)),
		rows(ascending(30), falling, twice, nil),
		rows(twice, twice, falling, falling),
		rows(list(there("a", ""), there("", ""), there("a", ""), there("", ""))),
		rows(list(there("", "1"), there("", "2")), list(there("", "3"))),
		rows(list(there("\xff", ""), there("\xff", ""), there("\x00", ""), there("", ""))),
	}
}

// TestJoinOfWrongRows: of rows that are not Right nothing is promised but that Join ends, does not panic, and leaves alone what it was handed.
func TestJoinOfWrongRows(t *testing.T) {
	for _, l := range wrongRows() {
		handed := rowsHandedIn(l)
		got := merge.Join(handed...)
		spoilAll(got)
		rowsUnchanged(t, "Join of rows that are not Right", handed, l)
	}
	r := rand.New(rand.NewSource(93))
	for range 2000 {
		l := make([][]api.Entry, r.Intn(6))
		for i := range l {
			l[i] = thrown(r, 20)
		}
		handed := rowsHandedIn(l)
		spoilAll(merge.Join(handed...))
		rowsUnchanged(t, "Join of thrown rows that are not Right", handed, l)
	}
	l := make([]api.Entry, 100000)
	for i := range l {
		l[i] = there(fmt.Sprint(-i), "")
	}
	merge.Join(l, l[1:], nil, l)
}

// TestJoinOfJoins parts rows at each place: joined apart and then together they must be as joined at once.
func TestJoinOfJoins(t *testing.T) {
	r := rand.New(rand.NewSource(94))
	lists := [][][]api.Entry{nil, rows(nil), rows(begun()), rows(ascending(9), ascending(20)), slices.Repeat(rows(list(gone("k")), list(there("k", "1"))), 3)}
	for range 300 {
		lists = append(lists, thrownRows(r, 8))
	}
	for _, l := range lists {
		want := plainJoin(l)
		joins(t, "P9.2", rows(merge.Join(l...)), want)
		for i := 0; i <= len(l); i++ {
			joins(t, "P9.2", rows(merge.Join(l[:i]...), merge.Join(l[i:]...)), want)
			joins(t, "P9.2", append(rows(merge.Join(l[:i]...)), l[i:]...), want)
			joins(t, "P9.2", append(slices.Clone(l[:i]), merge.Join(l[i:]...)), want)
			for j := i; j <= len(l); j++ {
				apart := rows(merge.Join(l[:i]...), merge.Join(l[i:j]...), merge.Join(l[j:]...))
				joins(t, "P9.2", apart, want)
				joins(t, "P9.2", append(append(slices.Clone(l[:i]), apart[1]), l[j:]...), want)
			}
		}
	}
}

// TestJoinOneByOne joins rows one by one, from the oldest on and from the newest on.
func TestJoinOneByOne(t *testing.T) {
	r := rand.New(rand.NewSource(95))
	for range 500 {
		l := thrownRows(r, 10)
		var fromOldest, fromNewest []api.Entry
		for i := range l {
			fromNewest = merge.Join(fromNewest, l[i])
			fromOldest = merge.Join(l[len(l)-1-i], fromOldest)
		}
		for _, got := range [][]api.Entry{fromOldest, fromNewest} {
			if !slices.EqualFunc(got, plainJoin(l), same) {
				t.Fatalf("P9.2: Joins, one by one, of %s: %s; must be %s", showRows(l), show(got), show(plainJoin(l)))
			}
		}
	}
}
