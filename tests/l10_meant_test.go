package tests

import (
	"fmt"
	"math"
	"slices"
	"testing"

	"loop.example/g00604/impl"
)

// ones are the Counts of a bag one by one: each with N of 1 or of -1, as often as it takes.
func ones(b []impl.Count) []impl.Count {
	var l []impl.Count
	for _, c := range b {
		for n := c.N; n > 0; n-- {
			l = append(l, count(1, c.Row...))
		}
		for n := c.N; n < 0; n++ {
			l = append(l, count(-1, c.Row...))
		}
	}
	return l
}

// hasPlaces asks whether each row of a bag has all of these places.
func hasPlaces(b []impl.Count, places ...int64) bool {
	for _, c := range b {
		for _, place := range places {
			if place < 0 || place >= int64(len(c.Row)) {
				return false
			}
		}
	}
	return true
}

// joinedByOnes goes through all ones of both bags.
func joinedByOnes(a []impl.Count, b []impl.Count, p int64, q int64) []impl.Count {
	var joined []impl.Count
	if !hasPlaces(a, p) || !hasPlaces(b, q) {
		return nil
	}
	for _, one := range ones(a) {
		for _, other := range ones(b) {
			if one.Row[p] == other.Row[q] {
				joined = impl.With(joined, slices.Concat(one.Row, other.Row), one.N*other.N)
			}
		}
	}
	return joined
}

// farPlaces are no places of any row.
func farPlaces() []int64 {
	return []int64{-1, -2, 6, 7, 1000, 1 << 32, -1 << 32, 1<<8 + 1, math.MaxInt64, math.MinInt64}
}

type joinCase struct {
	name string
	a, b []impl.Count
	p, q int64
	want []impl.Count
}

func checkJoined(t *testing.T, cases []joinCase) {
	t.Helper()
	for _, c := range cases {
		if got := impl.Joined(c.a, c.b, c.p, c.q); !sameBag(got, c.want) || !impl.BagOk(c.a) || !impl.BagOk(c.b) {
			t.Errorf("%s: Joined(%v, %v, %d, %d) = %v, want %v", c.name, c.a, c.b, c.p, c.q, got, c.want)
		}
	}
}

func TestJoined(t *testing.T) {
	a := bag(count(1, 1, 5), count(2, 2, 5), count(-1, 3, 7))
	b := bag(count(3, 5, 9), count(1, 6, 9), count(-2, 7, 9))
	checkJoined(t, []joinCase{
		{"alike in some", a, b, 1, 0, bag(count(3, 1, 5, 5, 9), count(6, 2, 5, 5, 9), count(2, 3, 7, 7, 9))},
		{"the other way round", b, a, 0, 1, bag(count(3, 5, 9, 1, 5), count(6, 5, 9, 2, 5), count(2, 7, 9, 3, 7))},
		{"alike in none", a, b, 0, 0, nil},
		{"alike in all", b, b[:2], 1, 1, bag(count(9, 5, 9, 5, 9), count(3, 5, 9, 6, 9), count(3, 6, 9, 5, 9), count(1, 6, 9, 6, 9), count(-6, 7, 9, 5, 9), count(-2, 7, 9, 6, 9))},
		{"one and itself", a, a, 0, 0, bag(count(1, 1, 5, 1, 5), count(4, 2, 5, 2, 5), count(1, 3, 7, 3, 7))},
		{"above and below 0", bag(count(4, 1)), bag(count(-5, 1)), 0, 0, bag(count(-20, 1, 1))},
		{"below and above 0", bag(count(-4, 1)), bag(count(5, 1)), 0, 0, bag(count(-20, 1, 1))},
		{"both below 0", bag(count(-4, 1)), bag(count(-5, 1)), 0, 0, bag(count(20, 1, 1))},
		{"numbers below 0", bag(count(1, -3)), bag(count(1, -3, 3), count(1, 3, -3)), 0, 0, bag(count(1, -3, -3, 3))},
		{"the number 0", bag(count(1, 0)), bag(count(1, 0)), 0, 0, bag(count(1, 0, 0))},
		{"outermost numbers", bag(count(1, -1000000000), count(1, 1000000000)), bag(count(1, 1000000000)), 0, 0, bag(count(1, 1000000000, 1000000000))},
		{"nothing and nothing", nil, []impl.Count{}, 0, 0, nil},
		{"nothing on the left", nil, b, 0, 0, nil},
		{"nothing on the right", a, nil, 0, 0, nil},
		{"nothing on the left, and no such place", nil, b, 9, 0, nil},
		{"nothing on the right, and no such place", a, nil, 0, -1, nil},
		{"as wide as may be", bag(count(1, 1, 2, 3)), bag(count(1, 1, 2, 3)), 2, 2, bag(count(1, 1, 2, 3, 1, 2, 3))},
	})
}

// Rows of which not all have as many numbers may come to one row.
func TestJoinedOfUnlikeRows(t *testing.T) {
	plus, minus := bag(count(1, 1), count(1, 1, 1)), bag(count(1, 1), count(-1, 1, 1))
	checkJoined(t, []joinCase{
		{"two to one row", plus, plus, 0, 0, bag(count(1, 1, 1), count(2, 1, 1, 1), count(1, 1, 1, 1, 1))},
		{"two that cancel one another", minus, plus, 0, 0, bag(count(1, 1, 1), count(-1, 1, 1, 1, 1))},
		{"two that cancel one another, the other way round", plus, minus, 0, 0, bag(count(1, 1, 1), count(-1, 1, 1, 1, 1))},
		{"two below 0", minus, minus, 0, 0, bag(count(1, 1, 1), count(-2, 1, 1, 1), count(1, 1, 1, 1, 1))},
		{"two that cancel one another, of N that differ", bag(count(2, 1), count(1, 1, 1)), bag(count(-6, 1), count(3, 1, 1)), 0, 0, bag(count(-12, 1, 1), count(3, 1, 1, 1, 1))},
		{"in another order than they stand in", bag(count(1, 1), count(1, 1, 0)), bag(count(1, 1, 5)), 0, 0, bag(count(1, 1, 0, 1, 5), count(1, 1, 1, 5))},
		{"one row lacks the place", bag(count(1, 1), count(1, 1, 1)), plus, 1, 0, nil},
		{"the last row alone lacks the place", bag(count(1, 1, 1), count(1, 2)), plus, 1, 0, nil},
		{"one row of the other lacks the place", plus, bag(count(1, 1, 1), count(1, 2)), 0, 1, nil},
		{"one that is like no other lacks the place", bag(count(1, 7, 1)), bag(count(1, 1, 1), count(1, 9)), 0, 1, nil},
		{"the row of no number", bag(count(1), count(1, 1)), plus, 0, 0, nil},
		{"the row of no number in the other", plus, bag(count(1)), 0, 0, nil},
		{"the row of no number alone", bag(count(1)), bag(count(1)), 0, 0, nil},
	})
}

func TestPlacesOfJoined(t *testing.T) {
	for one := int64(1); one <= 6; one++ {
		for two := int64(1); two <= 6; two++ {
			a := bag(impl.Count{Row: slices.Repeat([]int64{3}, int(one)), N: 2})
			b := bag(impl.Count{Row: slices.Repeat([]int64{3}, int(two)), N: -3})
			// One of more than MaxWidth numbers is made, too: no refusal is named for it.
			joined := bag(impl.Count{Row: slices.Repeat([]int64{3}, int(one+two)), N: -6})
			for _, p := range append(farPlaces(), 0, one-1, one, one+1) {
				for _, q := range append(farPlaces(), 0, two-1, two, two+1) {
					want := joined
					if !hasPlaces(a, p) || !hasPlaces(b, q) {
						want = nil
					}
					checkJoined(t, []joinCase{{"places", a, b, p, q, want}})
				}
			}
		}
	}
}

// Nothing asks that what comes out be a bag.
func TestJoinedBeyondABag(t *testing.T) {
	checkJoined(t, []joinCase{
		{"most N twice", bag(count(1000000, 1)), bag(count(1000000, 1)), 0, 0, bag(count(1000000000000, 1, 1))},
		{"most and least N", bag(count(1000000, 1)), bag(count(-1000000, 1)), 0, 0, bag(count(-1000000000000, 1, 1))},
		{"one more than MaxTimes", bag(count(1000000, 1), count(1, 1, 1)), bag(count(1, 1), count(1, 1, 1)), 0, 0, bag(count(1000000, 1, 1), count(1000001, 1, 1, 1), count(1, 1, 1, 1, 1))},
		{"just too long", bag(count(1, 1, 2, 3, 4)), bag(count(1, 1, 5, 6)), 0, 0, bag(count(1, 1, 2, 3, 4, 1, 5, 6))},
		{"as long as can be", bag(count(2, 1, 2, 3, 4, 5, 6)), bag(count(1, 9, 8, 7, 6, 5, 6)), 5, 5, bag(count(2, 1, 2, 3, 4, 5, 6, 9, 8, 7, 6, 5, 6))},
		{"some too long", bag(count(1, 1), count(1, 1, 2, 3)), bag(count(1, 1), count(1, 1, 2, 3, 4)), 0, 0, bag(count(1, 1, 1), count(1, 1, 1, 2, 3, 4), count(1, 1, 2, 3, 1), count(1, 1, 2, 3, 1, 2, 3, 4))},
	})
	var full []impl.Count
	for i := range int64(300) {
		full = append(full, count(i+1, 7, i))
	}
	for _, size := range []int64{0, 1, 2, 299, 300} {
		got := impl.Joined(full, full[:size], 0, 0)
		if int64(len(got)) != 300*size || impl.BagOk(got) != (size < 2) {
			t.Fatal("full bags", size, len(got))
		}
		for i, c := range got {
			one, other := int64(i)/size, int64(i)%size
			if c.N != (one+1)*(other+1) || !slices.Equal(c.Row, []int64{7, one, 7, other}) {
				t.Fatal("full bags", size, i, c)
			}
		}
	}
	if got := impl.Joined(full, full, 1, 1); len(got) != 300 || !impl.BagOk(got) {
		t.Fatal("a full bag by its other numbers", len(got))
	}
}

// Promise 10: Joined goes by ones.
func TestJoinedGoesByOnes(t *testing.T) {
	bags := smallBags([][]int64{{1}, {1, 1}, {2}})
	for _, a := range bags {
		for _, b := range bags {
			for p := int64(-1); p <= 2; p++ {
				for q := int64(-1); q <= 2; q++ {
					checkJoined(t, []joinCase{{"small bags", a, b, p, q, joinedByOnes(a, b, p, q)}})
				}
			}
		}
	}
}

// Promise 10: Joined of two bags together is that of each, together; on the left and on the right.
func TestJoinedOfTwoTogether(t *testing.T) {
	bags, few := smallBags([][]int64{{1}, {1, 1}, {2, 1}}), smallBags([][]int64{{1, 1}, {2}})
	for _, a := range bags {
		for _, more := range few {
			sum, minus := impl.Plus(a, more), impl.Minus(a)
			for _, b := range bags {
				left := impl.Plus(impl.Joined(a, b, 0, 0), impl.Joined(more, b, 0, 0))
				right := impl.Plus(impl.Joined(b, a, 0, 0), impl.Joined(b, more, 0, 0))
				checkJoined(t, []joinCase{
					{"on the left", sum, b, 0, 0, left},
					{"on the right", b, sum, 0, 0, right},
				})
			}
			checkJoined(t, []joinCase{
				{"turned round on the left", minus, more, 0, 0, impl.Minus(impl.Joined(a, more, 0, 0))},
				{"turned round on the right", more, minus, 0, 0, impl.Minus(impl.Joined(more, a, 0, 0))},
			})
		}
	}
}

func TestOnce(t *testing.T) {
	cases := []struct{ bag, want []impl.Count }{
		{nil, nil},
		{[]impl.Count{}, nil},
		{bag(count(1)), bag(count(1))},
		{bag(count(7)), bag(count(1))},
		{bag(count(-7)), nil},
		{bag(count(1, 5)), bag(count(1, 5))},
		{bag(count(2, 5)), bag(count(1, 5))},
		{bag(count(1000000, 5)), bag(count(1, 5))},
		{bag(count(-1, 5)), nil},
		{bag(count(-1000000, 5)), nil},
		{bag(count(-1, 1), count(-2, 2), count(-3, 3)), nil},
		{bag(count(-1, 1), count(2, 2), count(-3, 3)), bag(count(1, 2))},
		{bag(count(4, 1), count(-2, 2), count(3, 3)), bag(count(1, 1), count(1, 3))},
		{bag(count(2), count(-1, 1), count(1, 1, 0), count(5, 1, 0, 0)), bag(count(1), count(1, 1, 0), count(1, 1, 0, 0))},
		{bag(count(3, 1, 2, 3, 4, 5, 6)), bag(count(1, 1, 2, 3, 4, 5, 6))},
	}
	for _, c := range cases {
		if got := impl.Once(c.bag); !sameBag(got, c.want) {
			t.Errorf("Once(%v) = %v, want %v", c.bag, got, c.want)
		}
	}
	full := bagOfSize(300)
	if got := impl.Once(impl.Plus(full, full)); !sameBag(got, full) {
		t.Error("Once of a full bag", len(got))
	}
	if got := impl.Once(impl.Minus(full)); len(got) != 0 {
		t.Error("Once of a full bag turned round", len(got))
	}
}

// Promise 10: Once is what is there, each row once, and once more it is the same.
func TestOnceIsOnce(t *testing.T) {
	rows := [][]int64{{}, {-1}, {0}, {0, 5}, {1}}
	for _, b := range smallBags(rows) {
		once := impl.Once(b)
		checkTimes(t, "Once", once, rows, func(row []int64) int64 {
			if impl.TimesIn(b, row) > 0 {
				return 1
			}
			return 0
		})
		if !impl.IsSet(once) || !sameBag(impl.Once(once), once) {
			t.Fatalf("Once(%v) = %v is not once", b, once)
		}
	}
}

type groupCase struct {
	name   string
	bag    []impl.Count
	places []int64
	place  int64
	want   []impl.Count
}

func checkGrouped(t *testing.T, cases []groupCase) {
	t.Helper()
	for _, c := range cases {
		if got := impl.Grouped(c.bag, c.places, c.place); !sameBag(got, c.want) || !impl.BagOk(c.bag) {
			t.Errorf("%s: Grouped(%v, %v, %d) = %v, want %v", c.name, c.bag, c.places, c.place, got, c.want)
		}
	}
}

func TestGrouped(t *testing.T) {
	b := bag(count(1, 1, 5), count(2, 2, 5), count(3, 3, 7), count(1, 4, 5))
	checkGrouped(t, []groupCase{
		{"by one place", b, []int64{1}, -1, bag(count(1, 5, 4), count(1, 7, 3))},
		{"by one place, with a sum", b, []int64{1}, 0, bag(count(1, 5, 4, 9), count(1, 7, 3, 9))},
		{"by one place, with the sum of it", b, []int64{1}, 1, bag(count(1, 5, 4, 20), count(1, 7, 3, 21))},
		{"by what is different in each", b, []int64{0}, -1, bag(count(1, 1, 1), count(1, 2, 2), count(1, 3, 3), count(1, 4, 1))},
		{"by all places", b, []int64{0, 1}, 0, bag(count(1, 1, 5, 1, 1), count(1, 2, 5, 2, 4), count(1, 3, 7, 3, 9), count(1, 4, 5, 1, 4))},
		{"by all places, turned round", b, []int64{1, 0}, -1, bag(count(1, 5, 1, 1), count(1, 5, 2, 2), count(1, 5, 4, 1), count(1, 7, 3, 3))},
		{"by a place told twice", b, []int64{1, 1}, 0, bag(count(1, 5, 5, 4, 9), count(1, 7, 7, 3, 9))},
		{"by a place told three times", b[:2], []int64{1, 1, 1}, -1, bag(count(1, 5, 5, 5, 3))},
		{"by no place", b, nil, -1, bag(count(1, 7))},
		{"by no place, with a sum", b, []int64{}, 0, bag(count(1, 7, 18))},
		{"by no place, with the sum of the other", b, nil, 1, bag(count(1, 7, 41))},
		{"of nothing, by no place", nil, nil, -1, nil},
		{"of nothing, by no place, with a sum", []impl.Count{}, nil, 0, nil},
		{"of nothing", nil, []int64{0}, 0, nil},
		{"of nothing, and no such place", nil, []int64{9}, -7, nil},
		{"of the row of no number", bag(count(5)), nil, -1, bag(count(1, 5))},
		{"of rows that are not alike", bag(count(2), count(3, 1), count(4, 1, 2)), nil, -1, bag(count(1, 9))},
		{"of rows that are not alike, by what all have", bag(count(3, 1), count(4, 1, 2), count(1, 2)), []int64{0}, 0, bag(count(1, 1, 7, 7), count(1, 2, 1, 2))},
		{"more places than a node may have", b[:1], []int64{0, 1, 0, 1}, -1, bag(count(1, 1, 5, 1, 5, 1))},
		{"more places than a row may have", b[:1], []int64{0, 1, 0, 1, 0, 1, 0}, 1, bag(count(1, 1, 5, 1, 5, 1, 5, 1, 1, 5))},
	})
}

func TestGroupedBelowZero(t *testing.T) {
	b := bag(count(-1, 1, 5), count(2, 2, 5), count(3, 3, 7), count(-3, 4, 7), count(-2, 5, 8), count(1, 6, 9))
	checkGrouped(t, []groupCase{
		{"how many are above 0, 0, or less", b, []int64{1}, -1, bag(count(1, 5, 1), count(1, 9, 1))},
		{"and with a sum", b, []int64{1}, 0, bag(count(1, 5, 1, 3), count(1, 9, 1, 6))},
		{"0 in all", b, nil, -1, nil},
		{"0 in all, with a sum", b, nil, 0, nil},
		{"above 0 in all", b[:4], nil, -1, bag(count(1, 1))},
		{"above 0 in all, with a sum below 0", b[:4], nil, 1, bag(count(1, 1, 5))},
		{"below 0 in all", impl.Minus(b[:4]), nil, 0, nil},
		{"each below 0", impl.Minus(bagOfSize(3)), []int64{0}, -1, nil},
		{"the row of no number, below 0", bag(count(-1)), nil, -1, nil},
		{"a sum below 0", bag(count(2, -3), count(1, 1)), nil, 0, bag(count(1, 3, -5))},
		{"a sum below 0, of those that are fewer", bag(count(3, 1), count(-2, 4)), nil, 0, bag(count(1, 1, -5))},
		{"a sum of 0", bag(count(1, -5), count(1, 5)), nil, 0, bag(count(1, 2, 0))},
		{"a sum of 0, of noughts", bag(count(4, 1, 0), count(1, 2, 3)), []int64{0}, 1, bag(count(1, 1, 4, 0), count(1, 2, 1, 3))},
		{"a sum of 0, of N that are not", bag(count(2, 3, 1), count(-1, 6, 1)), []int64{1}, 0, bag(count(1, 1, 1, 0))},
		{"a list below 0", bag(count(1, -5, -7), count(2, -5, 7)), []int64{0}, 1, bag(count(1, -5, 3, 7))},
	})
}

// The greatest sums that bags have: they are no numbers of a row any more.
func TestGreatestSums(t *testing.T) {
	bagFor := func(cell int64, n int64) []impl.Count {
		var b []impl.Count
		for i := range int64(300) {
			b = append(b, count(n, cell, i))
		}
		return b
	}
	mixed := append(bagFor(-1000000000, -1000000)[:149], bagFor(1000000000, 1000000)[:151]...)
	cases := []groupCase{
		{"all outermost", bagFor(1000000000, 1000000), nil, 0, bag(count(1, 300000000, 300000000000000000))},
		{"all outermost, below 0", bagFor(-1000000000, 1000000), nil, 0, bag(count(1, 300000000, -300000000000000000))},
		{"all outermost, as one list", bagFor(-1000000000, 1000000), []int64{0}, 0, bag(count(1, -1000000000, 300000000, -300000000000000000))},
		{"all outermost, less than nothing", bagFor(-1000000000, -1000000), nil, 0, nil},
		{"those below 0 taken away", mixed, nil, 0, bag(count(1, 2000000, 300000000000000000))},
		{"the largest sum of a row", bag(count(1000000, 1000, 0)), nil, 0, bag(count(1, 1000000, 1000000000))},
		{"one more", bag(count(1000000, 1000, 0), count(1, 1001, 0)), nil, 0, bag(count(1, 1000001, 1000001001))},
	}
	checkGrouped(t, cases)
	if got := impl.Grouped(bagFor(5, 2), []int64{1}, 0); len(got) != 300 || !impl.IsSet(got) || !slices.Equal(got[299].Row, []int64{299, 2, 10}) {
		t.Error("as many groups as a bag may have", len(got))
	}
}

func TestPlacesOfGrouped(t *testing.T) {
	for width := int64(0); width <= 6; width++ {
		b := bag(impl.Count{Row: slices.Repeat([]int64{4}, int(width)), N: 3})
		for _, place := range append(farPlaces(), 0, width-1, width, width+1) {
			var by, sum, three []impl.Count
			if hasPlaces(b, place) {
				by, sum, three = bag(count(1, 4, 3)), bag(count(1, 3, 12)), bag(count(1, 4, 4, 4, 3))
			}
			if place == -1 {
				sum = bag(count(1, 3))
			}
			checkGrouped(t, []groupCase{
				{"by one place", b, []int64{place}, -1, by},
				{"the sum alone", b, nil, place, sum},
				{"by three places", b, []int64{place, place, place}, -1, three},
			})
			if width == 0 || hasPlaces(b, place) {
				continue
			}
			lists := [][]int64{{place}, {place, 0, 0}, {0, place, 0}, {0, 0, place}}
			for _, list := range lists {
				checkGrouped(t, []groupCase{{"one among others is none", b, list, 0, nil}})
			}
		}
	}
	unlike := bag(count(1, 1), count(1, 1, 2), count(1, 2, 2))
	checkGrouped(t, []groupCase{
		{"one row lacks the place", unlike, []int64{1}, -1, nil},
		{"one row lacks the last place", unlike, []int64{0, 1}, 0, nil},
		{"one row lacks the place of the sum", unlike, []int64{0}, 1, nil},
		{"the last row alone lacks it", bag(count(1, 1, 2), count(1, 2)), []int64{1}, -1, nil},
		{"one whose N is below 0 lacks it", bag(count(-1, 1), count(1, 1, 2)), []int64{1}, -1, nil},
	})
}

// groupedByOnes goes through all ones of a bag, and finds the list of each among those that it has.
func groupedByOnes(b []impl.Count, places []int64, place int64) []impl.Count {
	if !hasPlaces(b, places...) || place != -1 && !hasPlaces(b, place) {
		return nil
	}
	var lists [][]int64
	var many, sums []int64
	for _, one := range ones(b) {
		list := []int64{}
		for _, at := range places {
			list = append(list, one.Row[at])
		}
		at := slices.IndexFunc(lists, func(other []int64) bool { return slices.Equal(other, list) })
		if at < 0 {
			at = len(lists)
			lists, many, sums = append(lists, list), append(many, 0), append(sums, 0)
		}
		many[at] += one.N
		if place != -1 {
			sums[at] += one.N * one.Row[place]
		}
	}
	var groups []impl.Count
	for at, list := range lists {
		row := append(list, many[at])
		if place != -1 {
			row = append(row, sums[at])
		}
		if many[at] > 0 {
			groups = impl.With(groups, row, 1)
		}
	}
	return groups
}

// Promise 10: groups count all.
func TestGroupsCountAll(t *testing.T) {
	lists := [][]int64{nil, {0}, {1}, {0, 0}, {1, 0}, {0, 1, 1}, {2}, {-1}, {0, 2}, {0, -1}}
	for _, rows := range [][][]int64{{{1, -3}, {1, 3}, {2, -3}, {2, 0}}, {{}, {1}, {1, 2}, {2}}} {
		for _, b := range smallBags(rows) {
			for _, places := range lists {
				for place := int64(-2); place <= 2; place++ {
					checkGrouped(t, []groupCase{{"small bags", b, places, place, groupedByOnes(b, places, place)}})
				}
			}
		}
	}
}

// Promise 10: of rows that are there, groups tell as many as there are, together, and each list once.
func TestGroupsTellAsManyAsThereAre(t *testing.T) {
	rows := [][]int64{{0, 4}, {0, 5}, {1, 4}, {1, 5}, {2, 4}}
	for _, small := range smallBags(rows) {
		b := impl.Once(small)
		b = impl.Plus(b, impl.Plus(b, impl.Once(impl.Minus(small))))
		all, sum := int64(0), int64(0)
		for _, c := range b {
			all += c.N
			sum += c.N * c.Row[1]
		}
		for _, places := range [][]int64{nil, {0}, {1}, {1, 0}, {0, 0}} {
			many, told := int64(0), int64(0)
			groups := impl.Grouped(b, places, 1)
			for i, c := range groups {
				many += c.Row[len(places)]
				told += c.Row[len(places)+1]
				if i > 0 && slices.Equal(groups[i-1].Row[:len(places)], c.Row[:len(places)]) {
					t.Fatalf("Grouped(%v, %v, 1) = %v has a list twice", b, places, groups)
				}
			}
			if many != all || told != sum || !impl.IsSet(groups) {
				t.Fatalf("Grouped(%v, %v, 1) = %v", b, places, groups)
			}
		}
	}
}

func TestMeantOfWhatIsNoBag(t *testing.T) {
	right := bag(count(2, 1, 5), count(-3, 9, 5))
	for name, wrong := range wrongBags() {
		for _, p := range append(farPlaces(), 0, 1) {
			for _, q := range append(farPlaces(), 0, 1) {
				for _, pair := range [][2][]impl.Count{{wrong, right}, {right, wrong}, {wrong, nil}, {nil, wrong}, {wrong, wrong}} {
					if got := impl.Joined(pair[0], pair[1], p, q); len(got) != 0 {
						t.Fatalf("%s: Joined(.., %d, %d) = %.40v", name, p, q, got)
					}
				}
				for _, places := range [][]int64{nil, {}, {q}, {0, q}, {q, q, q}} {
					if got := impl.Grouped(wrong, places, p); len(got) != 0 {
						t.Fatalf("%s: Grouped(.., %v, %d) = %.40v", name, places, p, got)
					}
				}
			}
		}
		if got := impl.Once(wrong); len(got) != 0 {
			t.Errorf("%s: Once = %.40v", name, got)
		}
	}
}

// shopTables have rows that some nodes find, and others do not.
func shopTables() []impl.Table {
	return []impl.Table{
		table("a", 2, []int64{1, 5}, []int64{2, 5}, []int64{3, 7}),
		table("b", 2, []int64{5, 9}, []int64{7, 9}),
		table("c", 1),
		table("d", 4, []int64{-1, 1, 1, 0}, []int64{0, 1, 2, 0}, []int64{1, 2, 2, -5}, []int64{2, 2, 2, 5}),
	}
}

func TestPartsOfEachKind(t *testing.T) {
	cases := map[string][]string{
		"table a":                                       {"1 5;2 5;3 7"},
		"table c":                                       {""},
		"table d":                                       {"-1 1 1 0;0 1 2 0;1 2 2 -5;2 2 2 5"},
		"table a; where $1=5":                           {"1 5;2 5;3 7", "1 5;2 5"},
		"table a; where -":                              {"1 5;2 5;3 7", "1 5;2 5;3 7"},
		"table d; where $0<$1,$3<1":                     {"-1 1 1 0;0 1 2 0;1 2 2 -5;2 2 2 5", "-1 1 1 0;0 1 2 0;1 2 2 -5"},
		"table a; where $0>9; group":                    {"1 5;2 5;3 7", "", ""},
		"table a; keep 1":                               {"1 5;2 5;3 7", "5x2;7"},
		"table a; keep 1 1 0":                           {"1 5;2 5;3 7", "5 5 1;5 5 2;7 7 3"},
		"table a; table b; join 1 0":                    {"1 5;2 5;3 7", "5 9;7 9", "1 5 5 9;2 5 5 9;3 7 7 9"},
		"table b; table a; join 0 1":                    {"5 9;7 9", "1 5;2 5;3 7", "5 9 1 5;5 9 2 5;7 9 3 7"},
		"table a; table c; join 0 0":                    {"1 5;2 5;3 7", "", ""},
		"table c; table a; join 0 0":                    {"", "1 5;2 5;3 7", ""},
		"table a; keep 1; table a; keep 1; join 0 0":    {"1 5;2 5;3 7", "5x2;7", "1 5;2 5;3 7", "5x2;7", "5 5x4;7 7"},
		"table a; table b; both":                        {"1 5;2 5;3 7", "5 9;7 9", "1 5;2 5;3 7;5 9;7 9"},
		"table a; table a; both":                        {"1 5;2 5;3 7", "1 5;2 5;3 7", "1 5x2;2 5x2;3 7x2"},
		"table a; keep 1; once":                         {"1 5;2 5;3 7", "5x2;7", "5;7"},
		"table a; group":                                {"1 5;2 5;3 7", "3"},
		"table a; group sum 1":                          {"1 5;2 5;3 7", "3 17"},
		"table a; group 1 sum 0":                        {"1 5;2 5;3 7", "5 2 3;7 1 3"},
		"table c; group sum 0":                          {"", ""},
		"table a; keep 1; group 0; group 1":             {"1 5;2 5;3 7", "5x2;7", "5 2;7 1", "1 1;2 1"},
		"table a; keep 1; group 0 sum 0; where $1<$2":   {"1 5;2 5;3 7", "5x2;7", "5 2 10;7 1 7", "5 2 10;7 1 7"},
		"table d; group 1 2 sum 3":                      {"-1 1 1 0;0 1 2 0;1 2 2 -5;2 2 2 5", "1 1 1 0;1 2 1 0;2 2 2 0"},
		"table d; where $3<1; group 1 sum 3":            {"-1 1 1 0;0 1 2 0;1 2 2 -5;2 2 2 5", "-1 1 1 0;0 1 2 0;1 2 2 -5", "1 2 0;2 1 -5"},
		"table a; table b; table a; both; join 1 0":     {"1 5;2 5;3 7", "5 9;7 9", "1 5;2 5;3 7", "1 5;2 5;3 7;5 9;7 9", "1 5 5 9;2 5 5 9;3 7 7 9"},
		"table a; table b; both; table a; join 0 0":     {"1 5;2 5;3 7", "5 9;7 9", "1 5;2 5;3 7;5 9;7 9", "1 5;2 5;3 7", "1 5 1 5;2 5 2 5;3 7 3 7"},
		"table a; keep 0; table b; keep 0; both; group": {"1 5;2 5;3 7", "1;2;3", "5 9;7 9", "5;7", "1;2;3;5;7", "5"},
	}
	for text, want := range cases {
		v := readView(t, text)
		parts, is := impl.Parts(shopTables(), v)
		var texts []string
		for _, part := range parts {
			texts = append(texts, impl.ShowBag(part))
		}
		if !is || !slices.Equal(texts, want) {
			t.Errorf("Parts of %q = %q, %v, want %q", text, texts, is, want)
		}
		last, is := impl.Meant(shopTables(), v)
		if shown := impl.ShowBag(last); !is || shown != want[len(want)-1] {
			t.Errorf("Meant of %q = %q, %v", text, shown, is)
		}
	}
}

// rowsOnce has each of these rows once, and how often it is there.
func rowsOnce(rows [][]int64) ([][]int64, []int64) {
	var once [][]int64
	var times []int64
	for _, row := range rows {
		at := slices.IndexFunc(once, func(other []int64) bool { return slices.Equal(other, row) })
		if at < 0 {
			once, times = append(once, row), append(times, 1)
		} else {
			times[at]++
		}
	}
	return once, times
}

// groupRows has the rows of a group node, by what is told at its Places of each row.
func groupRows(n impl.Node, rows [][]int64) [][]int64 {
	lists, many := rowsOnce(pickRows(n.Places, rows))
	var groups [][]int64
	for i, list := range lists {
		group := append(slices.Clone(list), many[i])
		sum := int64(0)
		for at, picked := range pickRows(n.Places, rows) {
			if n.Place != -1 && slices.Equal(picked, list) {
				sum += rows[at][n.Place]
			}
		}
		if n.Place != -1 {
			group = append(group, sum)
		}
		groups = append(groups, group)
	}
	return groups
}

func pickRows(places []int64, rows [][]int64) [][]int64 {
	var all [][]int64
	for _, row := range rows {
		picked := []int64{}
		for _, place := range places {
			picked = append(picked, row[place])
		}
		all = append(all, picked)
	}
	return all
}

// nodeRows makes of rows, each of which stands there as often as it is there, what a right node that finds all its places makes of them.
func nodeRows(n impl.Node, one [][]int64, two [][]int64) [][]int64 {
	switch n.Kind {
	case 2:
		return slices.DeleteFunc(slices.Clone(one), func(row []int64) bool { return !allHold(n.Conds, row) })
	case 3:
		return pickRows(n.Places, one)
	case 4:
		var joined [][]int64
		for _, row := range one {
			for _, other := range two {
				if row[n.Places[0]] == other[n.Places[1]] {
					joined = append(joined, slices.Concat(row, other))
				}
			}
		}
		return joined
	case 5:
		return slices.Concat(one, two)
	case 6:
		once, _ := rowsOnce(one)
		return once
	}
	return groupRows(n, one)
}

// wantedParts is told by rows one by one; false where there can't be such rows, or where there are too many.
func wantedParts(b []impl.Table, v []impl.Node) ([][]impl.Count, bool) {
	if _, _, is := lastRow(b, v); !is {
		return nil, false
	}
	var parts [][]impl.Count
	var free [][][]int64
	for _, n := range v {
		x, _ := impl.TableIn(b, n.Name)
		rows, left := x.Rows, len(free)-looksAt(n.Kind)
		switch looksAt(n.Kind) {
		case 1:
			rows = nodeRows(n, free[left], nil)
		case 2:
			rows = nodeRows(n, free[left], free[left+1])
		}
		part := impl.BagOf(rows)
		if len(part) > 300 {
			return nil, false
		}
		parts, free = append(parts, part), append(free[:left], rows)
	}
	return parts, true
}

// checkMeant asks for all that a right view means, and for promise 9: each row has as many numbers as WidthOf tells.
func checkMeant(t *testing.T, b []impl.Table, v []impl.Node) bool {
	t.Helper()
	want, wantIs := wantedParts(b, v)
	parts, is := impl.Parts(b, v)
	if is != wantIs || !slices.EqualFunc(parts, want, sameBag) {
		t.Fatalf("Parts(%v, %q) = %v, %v, want %v, %v", b, impl.ShowView(v), parts, is, want, wantIs)
	}
	last, is := impl.Meant(b, v)
	if !wantIs {
		if is || len(last) != 0 {
			t.Fatalf("Meant(%v, %q) = %v, %v", b, impl.ShowView(v), last, is)
		}
		return false
	}
	if !is || !sameBag(last, want[len(want)-1]) {
		t.Fatalf("Meant(%v, %q) = %v, %v", b, impl.ShowView(v), last, is)
	}
	checkWidths(t, v, last, impl.WidthOf(b, v))
	for at, part := range parts {
		row, _, _ := lastRow(b, v[:at+1])
		checkWidths(t, v[:at+1], part, int64(len(row)))
	}
	return true
}

func checkWidths(t *testing.T, v []impl.Node, b []impl.Count, width int64) {
	t.Helper()
	for _, c := range b {
		if int64(len(c.Row)) != width || c.N < 1 {
			t.Fatalf("of %v there is %v, but WidthOf tells %d", v, c, width)
		}
	}
}

// nodesForParts find something in shopTables.
func nodesForParts() []impl.Node {
	return []impl.Node{
		tableNode("a"), tableNode("b"), tableNode("d"), tableNode("x"),
		whereNode(toNumber(1, 2, 5)), whereNode(toPlace(0, 1, 1)), node(3, 1), node(3, 0, 1, 0), node(3, 3),
		node(4, 1, 0), node(4, 0, 0), node(4, 2, 1), node(5), node(6), groupNode(-1), groupNode(0, 1), groupNode(1),
	}
}

func basesForParts() [][]impl.Table {
	many := table("a", 2)
	for i := range int64(30) {
		many.Rows = append(many.Rows, []int64{i - 3, i % 2})
	}
	return [][]impl.Table{
		nil,
		shopTables(),
		{many, table("b", 2, many.Rows[2:20]...), table("d", 1, []int64{0}, []int64{1})},
		{table("a", 2), table("b", 3, []int64{1, 5, 5}, []int64{5, 5, 1}), table("d", 2, []int64{1, 5}, []int64{5, 1}), table("x", 1, []int64{5})},
	}
}

// Promises 9 and 10, of all views of up to 4 nodes.
func TestPartsOfAllSmallViews(t *testing.T) {
	seen := map[bool]int{}
	for _, b := range basesForParts() {
		eachView(nodesForParts(), 4, func(v []impl.Node) {
			seen[checkMeant(t, b, v)]++
		})
	}
	if seen[true] < 1000 || seen[false] < 1000 {
		t.Fatal(seen)
	}
}

// viewFor is of just that many nodes, each of which may stand where it does.
func viewFor(nodes []impl.Node, size int, next func(int) int) []impl.Node {
	var v []impl.Node
	free := 0
	for len(v) < size {
		n := nodes[next(len(nodes))]
		looks, left := looksAt(n.Kind), size-len(v)-1
		// As many nodes as are left make two of what is free one each.
		if looks <= free && free-looks <= left {
			v, free = append(v, n), free-looks+1
		}
	}
	return v
}

// Promises 9 and 10, of views of up to MaxNodes nodes.
func TestPartsOfLongViews(t *testing.T) {
	nodes := nodesForParts()
	bases := basesForParts()[1:]
	next := numbersFrom(1)
	seen := map[int]int{}
	for range 20000 {
		v := viewFor(nodes, 1+next(9), next)
		if checkMeant(t, bases[next(len(bases))], v) {
			seen[len(v)]++
		}
	}
	for size := 1; size <= 9; size++ {
		if seen[size] < 20 {
			t.Fatal(seen)
		}
	}
}

// wideTables make as many rows as a bag may have, and one more.
func wideTables() []impl.Table {
	b := []impl.Table{table("m", 2), table("x", 2), table("y", 2), table("z", 4, []int64{1000, 0, 0, 0})}
	for i := range int64(30) {
		b[0].Rows = append(b[0].Rows, []int64{i, -1000})
		b[1].Rows = append(b[1].Rows, []int64{i, 0})
	}
	b[2].Rows = slices.Clone(b[1].Rows[:10])
	return b
}

// Each of these views has a width: where it means nothing, one of its nodes would have too many rows.
func TestPartsOfAsManyRowsAsMayBe(t *testing.T) {
	const full = "table x; table y; join 1 1"
	const none = -1
	cases := map[string]int{
		full:                                                           300,
		full + "; once":                                                300,
		full + "; where $0<29":                                         290,
		full + "; group 0 2":                                           300,
		full + "; keep 0 2 1 3 1 3":                                    300,
		full + "; table z; where $0<0; both":                           300,
		full + "; " + full + "; both":                                  300,
		full + "; table x; join 0 0":                                   300,
		full + "; keep 0 2; table x; both":                             300,
		full + "; keep 0 2; table m; both":                             none,
		full + "; keep 0 2; " + full + "; keep 2 0; both":              none,
		full + "; table z; both":                                       none,
		full + "; table z; both; once":                                 none,
		full + "; table z; both; group":                                none,
		full + "; table z; both; where $0=0":                           none,
		full + "; table y; join 1 1":                                   none,
		full + "; table y; join 1 1; group sum 5":                      none,
		"table x; table x; join 0 0":                                   30,
		"table x; table x; join 1 1":                                   none,
		"table x; table x; join 1 1; once":                             none,
		"table x; table x; join 1 1; group":                            none,
		"table x; table x; join 1 1; keep 1":                           none,
		"table x; table x; join 1 1; where $0>9; where $0<9; keep 0":   none,
		"table x; table x; join 1 1; group; table y; keep 0; both":     none,
		"table y; group; table x; table x; join 1 1; group; both":      none,
		"table z; where $0<0; table x; table x; join 1 1; both":        none,
		"table y; group; table m; table m; join 1 1; keep 0; join 0 0": none,
		"table x; keep 1; table x; keep 1; join 0 0":                   1,
		"table m; keep 1; table m; keep 1; join 0 0; group sum 1":      1,
		full + "; keep 1; " + full + "; keep 1; join 0 0":              1,
	}
	for text, want := range cases {
		v := readView(t, text)
		last, is := impl.Meant(wideTables(), v)
		if is != (want != none) || is && len(last) != want || impl.WidthOf(wideTables(), v) < 1 {
			t.Errorf("Meant of %q has %d rows, %v, want %d", text, len(last), is, want)
		}
		checkMeant(t, wideTables(), v)
	}
	for text, want := range map[string]string{
		"table m; keep 1; table m; keep 1; join 0 0":              "-1000 -1000x900",
		"table m; keep 1; table m; keep 1; join 0 0; group sum 1": "900 -900000",
		full + "; keep 1; " + full + "; keep 1; join 0 0":         "0 0x90000",
		full + "; group 1 3 sum 0; once":                          "0 0 300 4350",
	} {
		if last, is := impl.Meant(wideTables(), readView(t, text)); !is || impl.ShowBag(last) != want {
			t.Errorf("Meant of %q = %v, %v", text, last, is)
		}
	}
}

func TestPartsOfMaxNodes(t *testing.T) {
	a, once := tableNode("a"), node(6)
	cases := map[string][]impl.Node{
		"one behind the other": append(view(a), slices.Repeat(view(once), 8)...),
		"two by two":           append(slices.Repeat(view(a), 5), slices.Repeat(view(node(5)), 4)...),
		"two by two, by turns": view(a, a, node(5), a, node(5), a, node(5), a, node(5)),
		"groups of groups":     append(view(a), slices.Repeat(view(groupNode(-1, 0)), 8)...),
		"kept and joined":      view(a, node(3, 1), a, node(3, 1), node(4, 0, 0), a, node(3, 1), node(4, 0, 0), groupNode(2, 0)),
	}
	for name, v := range cases {
		if len(v) != 9 || !checkMeant(t, shopTables(), v) {
			t.Errorf("%s: %d nodes mean nothing", name, len(v))
		}
		for _, more := range [][]impl.Node{append(slices.Clone(v), once), append(view(a), v...), append(slices.Clone(v), a, node(5))} {
			checkNothingMeant(t, name+", and one more", shopTables(), more)
		}
	}
	last, is := impl.Meant(shopTables(), cases["two by two"])
	if got := impl.ShowBag(last); !is || got != "1 5x5;2 5x5;3 7x5" {
		t.Error("two by two", got)
	}
}

func checkNothingMeant(t *testing.T, name string, b []impl.Table, v []impl.Node) {
	t.Helper()
	parts, is := impl.Parts(b, v)
	last, too := impl.Meant(b, v)
	if is || too || len(parts) != 0 || len(last) != 0 {
		t.Errorf("%s: Parts = %v, %v, Meant = %v, %v", name, parts, is, last, too)
	}
}

// Without a width there is nothing, whatever nodes stand behind, and though no row would be wrong.
func TestWhatHasNoWidthMeansNothing(t *testing.T) {
	texts := []string{
		"table x", "table x; once", "table c; keep 1", "table c; where $1=1", "table c; where $0=$1", "table c; group 1", "table c; group sum 1",
		"table c; table a; join 1 0", "table a; table c; join 0 1", "table a; table c; both", "table d; table d; where $0>9; both; table a; table c; both; join 0 0",
		"table d; table d; join 0 0", "table d; where $0>9; table d; join 0 0", "table c; keep 1; group", "table a; group; table x; group; both", "table x; group; table a; group; both",
	}
	for _, text := range texts {
		checkNothingMeant(t, text, shopTables(), readView(t, text))
	}
	for _, size := range []int{0, 1} {
		checkNothingMeant(t, "a table in the spare room", shopTables()[:size], readView(t, "table b"))
	}
}

func TestPartsOfWhatIsNotRight(t *testing.T) {
	for name, b := range wrongBases() {
		for _, x := range append(b, table("a", 1)) {
			if impl.NodeOk(tableNode(x.Name)) {
				checkNothingMeant(t, name, b, view(tableNode(x.Name)))
				checkNothingMeant(t, name, b, view(tableNode(x.Name), groupNode(-1)))
			}
		}
	}
	for name, v := range wrongOrders() {
		checkNothingMeant(t, name, shopTables(), v)
	}
	for name, n := range wrongNodes() {
		for _, v := range viewsOf(n) {
			checkNothingMeant(t, name, shopTables(), v)
		}
	}
}

// Spare room behind the nodes means nothing.
func TestPartsOfViewsWithSpareRoom(t *testing.T) {
	v := view(tableNode("a"), node(3, 1), tableNode("c"), node(4, 0, 0), groupNode(-1))
	for size, want := range []bool{false, true, true, false, true, true} {
		parts, is := impl.Parts(shopTables(), v[:size])
		if is != want || is && len(parts) != size {
			t.Errorf("Parts of %d nodes = %v, %v", size, parts, is)
		}
	}
}

// Promise 21, as far as bags are joined, told once and grouped.
func TestJoinedOnceAndGroupedAreNew(t *testing.T) {
	counts := bag(count(2, 1, 5), count(1, 2, 5), count(-1, 3, 7), count(4, 5, 5), count(1, 8, 8))
	unlike := bag(count(3, 1), count(1, 1, 1), count(2, 5), count(-1, 5, 1), count(7, 9))
	wrong := bag(count(1, 5), count(0, 1), count(1, 1), count(1, 9))
	for _, ahead := range [][]impl.Count{counts, unlike, wrong} {
		for _, behind := range [][]impl.Count{counts, unlike, wrong} {
			for size := range 4 {
				a, aMemory := roomyBag(3, ahead...)
				b, bMemory := roomyBag(size, behind...)
				memory := func() string { return aMemory() + "|" + bMemory() }
				for p := range int64(2) {
					checkAnswersNew(t, "Joined ahead", memory, func() []impl.Count { return impl.Joined(a, b, p, 0) })
					checkAnswersNew(t, "Joined behind", memory, func() []impl.Count { return impl.Joined(b, a, 0, p) })
					checkAnswersNew(t, "Joined of one and itself", memory, func() []impl.Count { return impl.Joined(a, a, p, p) })
				}
				checkAnswersNew(t, "Once", memory, func() []impl.Count { return impl.Once(b) })
			}
		}
		b, bagMemory := roomyBag(4, ahead...)
		places := []int64{0, 1, 0, 0, 9, 8}
		memory := func() string { return bagMemory() + fmt.Sprint(places) }
		for size := range 5 {
			for place := int64(-1); place <= 2; place++ {
				checkAnswersNew(t, "Grouped", memory, func() []impl.Count { return impl.Grouped(b, places[:size], place) })
			}
		}
	}
}

// The rows of an argument may share memory with each other, and with the places.
func TestMeantOfRowsInOneMemory(t *testing.T) {
	cells := []int64{0, 1, 0, 1}
	b := []impl.Count{{Row: cells[:1], N: 1}, {Row: cells[:2], N: 2}, {Row: cells[1:3], N: 3}}
	was := slices.Clone(cells)
	answers := [][]impl.Count{impl.Joined(b, b, 0, 0), impl.Once(b), impl.Grouped(b, cells[:1], 0), impl.Grouped(b, cells[2:3], -1)}
	checkCellsStay(t, cells, was, answers)
}

// checkCellsStay sees to it that each answer is something, and shares nothing with the cells of the arguments, nor within itself.
func checkCellsStay(t *testing.T, cells []int64, was []int64, answers [][]impl.Count) {
	t.Helper()
	for _, got := range answers {
		if len(got) == 0 {
			t.Fatal("nothing is answered")
		}
		checkRowsApart(t, got)
		overwriteBag(got)
		if !slices.Equal(cells, was) {
			t.Fatal("an answer shares memory with an argument", cells)
		}
	}
}

func cloneParts(parts [][]impl.Count) [][]impl.Count {
	var cloned [][]impl.Count
	for _, part := range parts {
		cloned = append(cloned, cloneBag(part))
	}
	return cloned
}

// checkPartsNew sees to it that parts share nothing with the arguments, of which memory tells, nor with another answer, nor with each other.
func checkPartsNew(t *testing.T, name string, memory func() string, answer func() [][]impl.Count) {
	t.Helper()
	was := memory()
	one := answer()
	want := cloneParts(one)
	other := answer()
	if memory() != was {
		t.Fatalf("%s: an argument was written into", name)
	}
	for _, part := range one {
		overwriteBag(part)
	}
	clear(one[:cap(one)])
	if memory() != was {
		t.Fatalf("%s: an answer shares memory with an argument", name)
	}
	if !slices.EqualFunc(other, want, sameBag) {
		t.Fatalf("%s: two answers share memory", name)
	}
	for i := range other {
		checkRowsApart(t, other[i])
		overwriteBag(other[i])
		other[i] = cloneBag(want[i])
		if !slices.EqualFunc(other, want, sameBag) {
			t.Fatalf("%s: parts share memory", name)
		}
	}
}

// Promise 21, as far as views mean something.
func TestPartsAreNew(t *testing.T) {
	texts := []string{
		"table a", "table a; where -", "table a; where $1=5", "table a; keep 0 1", "table a; once", "table a; group 0 1 sum 1", "table a; table b; both", "table a; table a; both", "table a; table a; where $0>9; both", "table a; where $0>9; table a; both", "table a; table b; join 1 0",
		"table a; once; once; where -; keep 0 1", "table c; table c; both; once", "table a; table c; join 0 0", "table c; table a; keep 0; both; once", "table a; table a; table b; both; both; where -; table b; join 0 0; once",
		"table x", "table a; keep 2", "table d; table d; join 0 0",
	}
	for _, text := range texts {
		b, baseMemory := roomyBase(4, append(shopTables(), table("e", 1, []int64{1}))...)
		nodes := readView(t, text)
		v, viewMemory := roomyView(len(nodes), append(nodes, tableNode("b"), node(3, 0))...)
		memory := func() string { return baseMemory() + "|" + viewMemory() }
		checkPartsNew(t, "Parts of "+text, memory, func() [][]impl.Count {
			parts, _ := impl.Parts(b, v)
			return parts
		})
		checkAnswersNew(t, "Meant of "+text, memory, func() []impl.Count {
			last, _ := impl.Meant(b, v)
			return last
		})
	}
}

func TestPartsLeaveTheirArguments(t *testing.T) {
	bases := [][]impl.Table{shopTables(), basesForParts()[2], {table("b", 1), table("a", 1)}}
	for _, tables := range bases {
		b, baseMemory := roomyBase(len(tables), tables...)
		baseWas := baseMemory()
		eachRoomyView(func(v []impl.Node, memory func() string) {
			was := memory()
			impl.Parts(b, v)
			impl.Meant(b, v)
			if memory() != was || baseMemory() != baseWas {
				t.Fatalf("an argument was written into: %s, it was %s", memory(), was)
			}
		})
	}
}
