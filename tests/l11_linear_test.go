package tests

import (
	"fmt"
	"math"
	"slices"
	"testing"

	"loop.example/g00604/impl"
)

// keptByOnes goes through all ones of a bag.
func keptByOnes(b []impl.Count, places []int64) []impl.Count {
	var kept []impl.Count
	if !hasPlaces(b, places...) {
		return nil
	}
	for _, one := range ones(b) {
		kept = impl.With(kept, pickRows(places, [][]int64{one.Row})[0], one.N)
	}
	return kept
}

type keptCase struct {
	name   string
	bag    []impl.Count
	places []int64
	want   []impl.Count
}

func checkKept(t *testing.T, cases []keptCase) {
	t.Helper()
	for _, c := range cases {
		if got := impl.KeptOf(c.bag, c.places); !sameBag(got, c.want) || !impl.BagOk(c.bag) {
			t.Errorf("%s: KeptOf(%s, %v) = %s, want %s", c.name, brief(c.bag), c.places, brief(got), brief(c.want))
		}
	}
}

func TestKeptOf(t *testing.T) {
	b := bag(count(1, 1, 5), count(2, 2, 5), count(-4, 3, 7))
	unlike := bag(count(2), count(1, 1), count(3, 1, 0), count(-5, 2, 0, 9))
	checkKept(t, []keptCase{
		{"the first number", b, []int64{0}, bag(count(1, 1), count(2, 2), count(-4, 3))},
		{"the last number", b, []int64{1}, bag(count(3, 5), count(-4, 7))},
		{"all in their order", b, []int64{0, 1}, b},
		{"all turned round", b, []int64{1, 0}, bag(count(1, 5, 1), count(2, 5, 2), count(-4, 7, 3))},
		{"in another order than they stand in", bag(count(1, 1, 5), count(1, 2, 4)), []int64{1}, bag(count(1, 4), count(1, 5))},
		{"a place told twice", b, []int64{1, 1}, bag(count(3, 5, 5), count(-4, 7, 7))},
		{"a place told as often as may be", b[:1], []int64{1, 1, 1, 1, 1, 1}, bag(count(1, 5, 5, 5, 5, 5, 5))},
		{"no places", b, nil, bag(count(-1))},
		{"an empty list of places", b[:2], []int64{}, bag(count(3))},
		{"no places, 0 in all", bag(count(-2, 1), count(2, 2)), nil, nil},
		{"no places, rows of unlike numbers of numbers", unlike, nil, bag(count(1))},
		{"no places, the row of no number", bag(count(-7)), nil, bag(count(-7))},
		{"what all have of rows of unlike numbers of numbers", unlike[1:], []int64{0}, bag(count(4, 1), count(-5, 2))},
		{"nothing", nil, []int64{0}, nil},
		{"nothing, and no places", []impl.Count{}, nil, nil},
		{"nothing, and no such place", nil, []int64{9, -1}, nil},
		{"numbers below 0", bag(count(1, -1, -5), count(1, 0, -5)), []int64{1}, bag(count(2, -5))},
		{"outermost numbers", bag(count(1, -1000000000, 1000000000)), []int64{1, 0}, bag(count(1, 1000000000, -1000000000))},
		{"just less than the widest row", bag(count(3, 1, 2, 3, 4, 5, 6)), []int64{5, 4}, bag(count(3, 6, 5))},
		{"as many as the widest row", bag(count(3, 1, 2, 3, 4, 5, 6)), []int64{6}, nil},
	})
}

// Rows that are alike in what is Picked, and unlike elsewhere.
func TestKeptOfRowsThatComeToOne(t *testing.T) {
	b := bag(count(2, 1, 5), count(-2, 2, 5), count(1, 3, 7), count(-3, 4, 7), count(5, 5, 8), count(-4, 6, 8))
	checkKept(t, []keptCase{
		{"to 0, below 0 and above 0", b, []int64{1}, bag(count(-2, 7), count(1, 8))},
		{"to 0 alone", b[:2], []int64{1}, nil},
		{"to 0 ahead", bag(count(1, 1, 1), count(-1, 2, 1), count(9, 3, 2)), []int64{1}, bag(count(9, 2))},
		{"to 0 between", bag(count(9, 1, 1), count(1, 2, 2), count(-1, 3, 2), count(9, 4, 3)), []int64{1}, bag(count(9, 1), count(9, 3))},
		{"to 0 at the end", bag(count(9, 1, 1), count(1, 2, 2), count(-1, 3, 2)), []int64{1}, bag(count(9, 1))},
		{"to 0 on the way", bag(count(1, 1, 1), count(-1, 2, 1), count(4, 3, 1)), []int64{1}, bag(count(4, 1))},
		{"to 0 of three", bag(count(1, 1, 1), count(1, 2, 1), count(-2, 3, 1)), []int64{1}, nil},
		{"to 0 of unlike numbers of numbers", bag(count(1, 1), count(-1, 1, 2), count(2, 2)), []int64{0}, bag(count(2, 2))},
		{"to 0 at a place told twice", b[:2], []int64{1, 1}, nil},
		{"not to 0 where the places tell them apart", b[:2], []int64{1, 0}, bag(count(2, 5, 1), count(-2, 5, 2))},
		{"to 0 as far from it as may be", bag(count(1000000, 1, 5), count(-1000000, 2, 5)), []int64{1}, nil},
		// Nothing asks that what comes out be a bag.
		{"to more than MaxTimes", bag(count(1000000, 1, 5), count(1, 2, 5)), []int64{1}, bag(count(1000001, 5))},
		{"to less than -MaxTimes", bag(count(-1000000, 1, 5), count(-1000000, 2, 5)), []int64{1}, bag(count(-2000000, 5))},
		{"more places than a row may have", b[:1], []int64{0, 1, 0, 1, 0, 1, 0}, bag(count(2, 1, 5, 1, 5, 1, 5, 1))},
	})
}

func TestKeptOfFullBags(t *testing.T) {
	var full []impl.Count
	for i := range int64(300) {
		full = append(full, count(1000000, i, 300-i, 7))
	}
	cases := []keptCase{
		{"all in one", full, []int64{2}, bag(count(300000000, 7))},
		{"all in one, less than nothing", impl.Minus(full), []int64{2, 2}, bag(count(-300000000, 7, 7))},
		{"no places", full, nil, bag(count(300000000))},
		{"half of them taken away", append(cloneBag(full[:150]), impl.Minus(full[150:])...), []int64{2}, nil},
	}
	checkKept(t, cases)
	for _, places := range [][]int64{{0}, {1}, {2, 1}, {1, 0}} {
		if got := impl.KeptOf(full, places); len(got) != 300 || !impl.BagOk(got) || impl.Least(got) != 1000000 {
			t.Error("each of a full bag", places, len(got))
		}
	}
}

func TestPlacesOfKeptOf(t *testing.T) {
	for width := int64(0); width <= 6; width++ {
		b := bag(impl.Count{Row: slices.Repeat([]int64{4}, int(width)), N: 3})
		for _, place := range append(farPlaces(), 0, width-1, width, width+1) {
			is := place >= 0 && place < width
			for size := 1; size <= 6; size++ {
				var want []impl.Count
				if is {
					want = bag(impl.Count{Row: slices.Repeat([]int64{4}, size), N: 3})
				}
				checkKept(t, []keptCase{{"the same place", b, slices.Repeat([]int64{place}, size), want}})
			}
			if is || width == 0 {
				continue
			}
			for _, list := range [][]int64{{place, 0, 0}, {0, place, 0}, {0, 0, place}} {
				checkKept(t, []keptCase{{"one among others is none", b, list, nil}})
			}
		}
	}
	checkKept(t, []keptCase{
		{"the first row alone lacks it", bag(count(1, 1), count(1, 1, 2), count(1, 2, 2)), []int64{1}, nil},
		{"one between lacks it", bag(count(1, 1, 2), count(1, 2), count(1, 3, 2)), []int64{1}, nil},
		{"the last row alone lacks it", bag(count(1, 1, 2), count(1, 2)), []int64{1}, nil},
		{"one lacks the last of them", bag(count(1, 1, 2), count(1, 2)), []int64{0, 0, 1}, nil},
		{"one whose N is below 0 lacks it", bag(count(-1, 1), count(1, 1, 2)), []int64{1}, nil},
		{"the row of no number lacks it", bag(count(1), count(1, 1)), []int64{0}, nil},
		{"the row of no number alone lacks it", bag(count(1)), []int64{0}, nil},
		{"spare room is not of the row", []impl.Count{{Row: []int64{1, 2, 3}[:2], N: 1}}, []int64{2}, nil},
	})
}

func TestKeptOfGoesByOnes(t *testing.T) {
	lists := append(placeLists(0), placeLists(1)...)
	lists = append(lists, placeLists(2)...)
	lists = append(lists, []int64{-1}, []int64{0, -1}, []int64{0, 1, 0}, []int64{1, 1, 1})
	for _, rows := range [][][]int64{{{1, -3}, {1, 3}, {2, -3}, {2, 3}}, {{}, {1}, {1, 2}, {2}}} {
		for _, b := range smallBags(rows) {
			for _, places := range lists {
				checkKept(t, []keptCase{{"small bags", b, places, keptByOnes(b, places)}})
			}
		}
	}
}

// What is kept of what is kept is what is kept at the places that were told ahead.
func TestKeptOfTwice(t *testing.T) {
	for _, b := range smallBags([][]int64{{1, 5, 8}, {1, 6, 8}, {2, 5, 8}}) {
		for _, c := range []struct{ ahead, behind, want []int64 }{
			{[]int64{2, 1, 0}, []int64{2, 1, 0}, []int64{0, 1, 2}},
			{[]int64{1, 2}, []int64{1}, []int64{2}},
			{[]int64{1, 0, 1}, []int64{2, 1}, []int64{1, 0}},
			{[]int64{0}, nil, nil},
		} {
			got, want := impl.KeptOf(impl.KeptOf(b, c.ahead), c.behind), impl.KeptOf(b, c.want)
			if !sameBag(got, want) {
				t.Fatalf("of %v what is kept at %v, and of that at %v, is %v, want %v", b, c.ahead, c.behind, got, want)
			}
		}
	}
}

// scales are n that Scaled takes, and farScales n that it does not.
func scales() []int64 {
	return []int64{-1000, -999, -7, -2, -1, 0, 1, 2, 3, 7, 999, 1000}
}

func farScales() []int64 {
	return []int64{-1001, 1001, -1002, 1002, 5000, -5000, 1000000, -1000000, 1 << 32, -1 << 32, 1<<32 + 1, 1<<16 + 1, math.MaxInt64, math.MinInt64, math.MinInt64 + 1}
}

func TestScaled(t *testing.T) {
	b := bag(count(2), count(1, 1), count(-3, 1, 5), count(4, 2))
	cases := []struct {
		n    int64
		want []impl.Count
	}{
		{0, nil},
		{1, b},
		{-1, bag(count(-2), count(-1, 1), count(3, 1, 5), count(-4, 2))},
		{2, bag(count(4), count(2, 1), count(-6, 1, 5), count(8, 2))},
		{-3, bag(count(-6), count(-3, 1), count(9, 1, 5), count(-12, 2))},
		{999, bag(count(1998), count(999, 1), count(-2997, 1, 5), count(3996, 2))},
		{1000, bag(count(2000), count(1000, 1), count(-3000, 1, 5), count(4000, 2))},
		{-1000, bag(count(-2000), count(-1000, 1), count(3000, 1, 5), count(-4000, 2))},
		{1001, nil},
		{-1001, nil},
	}
	for _, c := range cases {
		if got := impl.Scaled(b, c.n); !sameBag(got, c.want) {
			t.Errorf("Scaled(%v, %d) = %v, want %v", b, c.n, got, c.want)
		}
	}
	for _, n := range farScales() {
		for _, list := range [][]impl.Count{nil, b, bagOfSize(1), bagOfSize(300)} {
			if got := impl.Scaled(list, n); len(got) != 0 {
				t.Errorf("Scaled(.., %d) = %s", n, brief(got))
			}
		}
	}
	for _, n := range scales() {
		for _, empty := range [][]impl.Count{nil, {}} {
			if got := impl.Scaled(empty, n); len(got) != 0 {
				t.Errorf("Scaled of nothing, %d = %v", n, got)
			}
		}
	}
}

// Nothing asks that what comes out keep to MaxTimes.
func TestScaledAsFarFromNothingAsMayBe(t *testing.T) {
	b := bag(count(1000000, 1), count(-1000000, 2), count(999999, 3), count(1, 4), count(-1, 5))
	for _, n := range scales() {
		want := bag(count(1000000*n, 1), count(-1000000*n, 2), count(999999*n, 3), count(n, 4), count(-n, 5))
		if n == 0 {
			want = nil
		}
		got := impl.Scaled(b, n)
		if !sameBag(got, want) || impl.BagOk(got) != (n >= -1 && n <= 1) {
			t.Errorf("Scaled(%v, %d) = %v, want %v", b, n, got, want)
		}
	}
	for _, n := range scales() {
		got := impl.Scaled(bagOfSize(300), n)
		if n == 0 {
			if len(got) != 0 {
				t.Error("a full bag by 0", len(got))
			}
			continue
		}
		if len(got) != 300 || !impl.BagOk(got) || impl.Least(got) != n || !sameBag(impl.Scaled(got, 1), got) {
			t.Error("a full bag by", n, len(got))
		}
	}
}

// Scaled n times is that bag n times together, and by two numbers what it is by their sum, and by their product.
func TestScaledIsAsOftenTogether(t *testing.T) {
	rows := [][]int64{{}, {-1}, {0, 5}}
	for _, b := range smallBags(rows) {
		sum, less := []impl.Count{}, []impl.Count{}
		for n := int64(0); n <= 6; n++ {
			if up, down := impl.Scaled(b, n), impl.Scaled(b, -n); !sameBag(up, sum) || !sameBag(down, less) {
				t.Fatalf("Scaled(%v, %d) = %v, and turned round %v", b, n, up, down)
			}
			sum, less = impl.Plus(sum, b), impl.Change(b, less)
		}
		for n := int64(-4); n <= 4; n++ {
			checkTimes(t, "Scaled", impl.Scaled(b, n), rows, func(row []int64) int64 { return n * impl.TimesIn(b, row) })
			for m := int64(-4); m <= 4; m++ {
				both := impl.Plus(impl.Scaled(b, n), impl.Scaled(b, m))
				if !sameBag(both, impl.Scaled(b, n+m)) || !sameBag(impl.Scaled(impl.Scaled(b, n), m), impl.Scaled(b, n*m)) {
					t.Fatalf("Scaled of %v by %d and %d does not go together", b, n, m)
				}
			}
		}
	}
}

// brief tells how long a bag is, and what it begins with.
func brief(b []impl.Count) string {
	return fmt.Sprint(len(b), " ", b[:min(len(b), 6)])
}

type straightCase struct {
	name     string
	node     impl.Node
	one, two []impl.Count
	want     []impl.Count
	is       bool
}

func checkStraight(t *testing.T, cases []straightCase) {
	t.Helper()
	for _, c := range cases {
		if got, is := impl.Straight(c.node, c.one, c.two); !sameBag(got, c.want) || is != c.is {
			t.Errorf("%s: Straight(%v, %s, %s) = %s, %v, want %s, %v", c.name, c.node, brief(c.one), brief(c.two), brief(got), is, brief(c.want), c.is)
		}
	}
}

func TestStraightOfWhere(t *testing.T) {
	b := bag(count(1, 1, 5), count(-2, 2, 5), count(3, 3, 7))
	other := bag(count(9), count(9, 9))
	less := whereNode(toNumber(0, 1, 3))
	checkStraight(t, []straightCase{
		{"some", less, b, nil, bag(count(1, 1, 5), count(-2, 2, 5)), true},
		{"none", whereNode(toNumber(0, 3, 3)), b, nil, nil, true},
		{"all", whereNode(toNumber(1, 3, 4)), b, nil, b, true},
		{"no conds", whereNode(), b, nil, b, true},
		{"two places", whereNode(toPlace(1, 3, 0), toNumber(1, 2, 7)), b, nil, b[2:], true},
		{"two is of no matter", less, b, other, bag(count(1, 1, 5), count(-2, 2, 5)), true},
		{"nothing", less, nil, nil, nil, true},
		{"nothing, two is of no matter", less, []impl.Count{}, other, nil, true},
		{"nothing, and conds beyond any row", whereNode(toNumber(5, 2, 1)), nil, other, nil, true},
		{"rows of unlike numbers of numbers", whereNode(toNumber(0, 2, 1)), bag(count(2, 1), count(-1, 1, 4), count(5, 2, 1)), nil, bag(count(2, 1), count(-1, 1, 4)), true},
		{"the row of no number, no conds", whereNode(), bag(count(-6), count(1, 1)), nil, bag(count(-6), count(1, 1)), true},
		{"as far from 0 as may be", less, bag(count(1000000, 1), count(-1000000, 2), count(1000000, 3)), nil, bag(count(1000000, 1), count(-1000000, 2)), true},
		{"just less than the numbers of a row", whereNode(toNumber(1, 3, 0), toPlace(1, 3, 0)), b, nil, b, true},
	})
}

// A row that conds have no place for is none of what a where looks at: nothing comes of such a bag, whatever else is in it.
func TestStraightOfWhereThatLacksAPlace(t *testing.T) {
	b := bag(count(1, 1, 5), count(2, 2, 5))
	right := bag(count(1, 1))
	checkStraight(t, []straightCase{
		{"as many as the numbers of a row", whereNode(toNumber(2, 3, 0)), b, nil, nil, false},
		{"Other as many", whereNode(toPlace(0, 2, 2)), b, nil, nil, false},
		{"the last place", whereNode(toNumber(5, 2, 1)), b, right, nil, false},
		{"the last cond alone", whereNode(toNumber(0, 3, 0), toNumber(1, 3, 0), toNumber(2, 3, 0)), b, nil, nil, false},
		{"behind a cond that holds of no row", whereNode(toNumber(0, 3, 9), toNumber(2, 3, 0)), b, nil, nil, false},
		{"the row of no number", whereNode(toNumber(0, 2, 1)), bag(count(1), count(1, 1)), nil, nil, false},
		{"the row of no number alone", whereNode(toPlace(0, 2, 0)), bag(count(1)), nil, nil, false},
		{"the first row alone", whereNode(toNumber(1, 2, 2)), bag(count(1, 1), count(1, 1, 2), count(1, 2, 2)), nil, nil, false},
		{"one between", whereNode(toNumber(1, 2, 2)), bag(count(1, 1, 2), count(1, 2), count(1, 3, 2)), nil, nil, false},
		{"the last row alone", whereNode(toNumber(1, 2, 2)), bag(count(1, 1, 2), count(1, 2)), nil, nil, false},
		{"one whose N is below 0", whereNode(toNumber(1, 2, 2)), bag(count(-1, 1), count(1, 1, 2)), nil, nil, false},
		{"spare room is not of the row", whereNode(toNumber(2, 3, 0)), []impl.Count{{Row: []int64{1, 2, 3}[:2], N: 1}}, nil, nil, false},
		{"a number is no place", whereNode(toNumber(0, 1, 1000)), right, nil, right, true},
		{"rows of two are of no matter", whereNode(toNumber(1, 3, 0)), b, right, b, true},
	})
}

func TestStraightOfKeep(t *testing.T) {
	b := bag(count(1, 1, 5), count(-2, 2, 5), count(3, 3, 7))
	other := bag(count(9), count(9, 9))
	checkStraight(t, []straightCase{
		{"together", node(3, 1), b, nil, bag(count(-1, 5), count(3, 7)), true},
		{"a place told twice", node(3, 1, 1), b, nil, bag(count(-1, 5, 5), count(3, 7, 7)), true},
		{"to 0", node(3, 1), bag(count(2, 1, 5), count(-2, 2, 5)), nil, nil, true},
		{"two is of no matter", node(3, 1), b, other, bag(count(-1, 5), count(3, 7)), true},
		{"nothing", node(3, 0), nil, nil, nil, true},
		{"nothing, and a place beyond any row", node(3, 5), nil, other, nil, true},
		{"rows of unlike numbers of numbers", node(3, 0), bag(count(2, 1), count(-1, 1, 4), count(5, 2, 1)), nil, bag(count(1, 1), count(5, 2)), true},
		{"just less than the numbers of a row", node(3, 1, 0), b[:1], nil, bag(count(1, 5, 1)), true},
		{"as many", node(3, 2), b, nil, nil, false},
		{"as many, behind others", node(3, 0, 1, 2), b, nil, nil, false},
		{"one row lacks it", node(3, 1), bag(count(1, 1, 2), count(1, 2), count(1, 3, 2)), nil, nil, false},
		{"the last row alone lacks it", node(3, 1), bag(count(1, 1, 2), count(-1, 2)), nil, nil, false},
		{"the row of no number lacks it", node(3, 0), bag(count(1), count(1, 1)), nil, nil, false},
		{"the row of no number alone lacks it", node(3, 0), bag(count(1)), nil, nil, false},
		{"less than 0", node(3, -1), b, nil, nil, false},
		{"no places", node(3), b, nil, nil, false},
		{"one more than a row may have", node(3, 0, 0, 0, 0, 0, 0, 0), b, nil, nil, false},
		{"as many as a row may have", node(3, 0, 0, 0, 0, 0, 0), b[:1], nil, bag(count(1, 1, 1, 1, 1, 1, 1)), true},
		{"to more than MaxTimes", node(3, 1), bag(count(1000000, 1, 5), count(1, 2, 5)), nil, bag(count(1000001, 5)), true},
		{"to less than -MaxTimes", node(3, 1), bag(count(-1000000, 1, 5), count(-1, 2, 5)), nil, bag(count(-1000001, 5)), true},
	})
}

func TestStraightOfBoth(t *testing.T) {
	b := bag(count(1, 1, 5), count(-2, 2, 5), count(3, 3, 7))
	full, more := bagOfSize(300), shiftedBag(300)
	checkStraight(t, []straightCase{
		{"one and itself", node(5), b, b, bag(count(2, 1, 5), count(-4, 2, 5), count(6, 3, 7)), true},
		{"one and it turned round", node(5), b, impl.Minus(b), nil, true},
		{"some to 0", node(5), b, bag(count(2, 2, 5), count(1, 4, 0)), bag(count(1, 1, 5), count(3, 3, 7), count(1, 4, 0)), true},
		{"nothing and nothing", node(5), nil, []impl.Count{}, nil, true},
		{"nothing and some", node(5), nil, b, b, true},
		{"some and nothing", node(5), b, nil, b, true},
		{"rows of unlike numbers of numbers", node(5), bag(count(1), count(1, 1, 2)), bag(count(2, 1), count(3, 1, 2, 3)), bag(count(1), count(2, 1), count(1, 1, 2), count(3, 1, 2, 3)), true},
		{"most N twice", node(5), bag(count(1000000, 1)), bag(count(1000000, 1)), bag(count(2000000, 1)), true},
		{"least N twice", node(5), bag(count(-1000000, 1)), bag(count(-1000000, 1)), bag(count(-2000000, 1)), true},
		{"most and least N", node(5), bag(count(1000000, 1)), bag(count(-1000000, 1)), nil, true},
		{"more than MaxBag", node(5), full, more, impl.Plus(full, more), true},
		{"two full bags of the same rows", node(5), full, full, impl.Scaled(full, 2), true},
	})
	if got, _ := impl.Straight(node(5), full, more); len(got) != 600 {
		t.Error("two full bags are", len(got))
	}
}

// Of the seven kinds three go straight on.
func TestStraightOfEachKind(t *testing.T) {
	b := bag(count(1, 1, 1, 1, 1, 1, 1))
	seen := map[int64]int{}
	for _, c := range append(rightNodes(), eachKind()...) {
		want := c.node.Kind == 2 || c.node.Kind == 3 || c.node.Kind == 5
		for _, pair := range [][2][]impl.Count{{nil, nil}, {b, nil}, {nil, b}, {b, b}} {
			got, is := impl.Straight(c.node, pair[0], pair[1])
			if is != want || !is && len(got) != 0 {
				t.Errorf("Straight of %s = %v, %v", c.text, got, is)
			}
		}
		seen[c.node.Kind]++
	}
	if len(seen) != 7 {
		t.Fatal(seen)
	}
}

func TestLinearOfWhatIsNoBag(t *testing.T) {
	right := bag(count(2, 1, 5), count(-3, 9, 5))
	for name, wrong := range wrongBags() {
		for _, places := range [][]int64{nil, {}, {0}, {0, 0}, {1}, {-1}, {9}} {
			if got := impl.KeptOf(wrong, places); len(got) != 0 {
				t.Errorf("%s: KeptOf(.., %v) = %s", name, places, brief(got))
			}
		}
		for _, n := range append(farScales(), scales()...) {
			if got := impl.Scaled(wrong, n); len(got) != 0 {
				t.Errorf("%s: Scaled(.., %d) = %s", name, n, brief(got))
			}
		}
		for _, c := range append(rightNodes(), nodeText{node: whereNode(toNumber(0, 3, 0))}) {
			for _, pair := range [][2][]impl.Count{{wrong, right}, {right, wrong}, {wrong, nil}, {nil, wrong}, {wrong, wrong}} {
				checkStraight(t, []straightCase{{name, c.node, pair[0], pair[1], nil, false}})
			}
		}
	}
}

func TestStraightOfWrongNodes(t *testing.T) {
	one := bag(count(1, 1, 1, 1, 1, 1, 1))
	for name, n := range wrongNodes() {
		for _, pair := range [][2][]impl.Count{{nil, nil}, {one, nil}, {nil, one}, {one, one}} {
			checkStraight(t, []straightCase{{name, n, pair[0], pair[1], nil, false}})
		}
	}
	for _, n := range allNodes() {
		got, is := impl.Straight(n, one, one)
		if want := isRightNode(n) && (n.Kind == 2 || n.Kind == 3 || n.Kind == 5); is != want || !is && len(got) != 0 {
			t.Fatalf("Straight(%v, ..) = %v, %v", n, got, is)
		}
	}
}

// straightByOnes goes through all ones of both bags.
func straightByOnes(n impl.Node, one []impl.Count, two []impl.Count) ([]impl.Count, bool) {
	if n.Kind != 2 && n.Kind != 3 && n.Kind != 5 {
		return nil, false
	}
	if n.Kind == 5 {
		one, two = slices.Concat(one, two), nil
	}
	var all []impl.Count
	for _, c := range ones(one) {
		if _, fits := stepRow(n, c.Row, c.Row); !fits {
			return nil, false
		}
		for _, row := range nodeRows(n, [][]int64{c.Row}, nil) {
			all = impl.With(all, row, c.N)
		}
	}
	return all, true
}

// straightNodes look at rows of one number, or of more.
func straightNodes() []impl.Node {
	return []impl.Node{
		whereNode(), whereNode(toNumber(0, 2, 1)), whereNode(toNumber(0, 3, 1)), whereNode(toNumber(1, 2, 1)), whereNode(toPlace(0, 2, 1)), whereNode(toPlace(0, 2, 0), toNumber(0, 1, 2)),
		node(3, 0), node(3, 1), node(3, 0, 0), node(3, 1, 0), node(3, 0, 1, 0), node(5),
	}
}

func TestStraightGoesByOnes(t *testing.T) {
	seen := map[bool]int{}
	for _, rows := range [][][]int64{{{1}, {1, 1}, {2, 1}}, {{1, 1}, {1, 2}, {2, 1}}, {{}, {1}, {2, 2}}} {
		bags := smallBags(rows)
		for _, n := range append(straightNodes(), node(6), groupNode(-1), node(4, 0, 0), tableNode("a")) {
			for _, one := range bags {
				for _, two := range [][]impl.Count{nil, bags[len(bags)-1], bags[len(bags)/3]} {
					want, is := straightByOnes(n, one, two)
					checkStraight(t, []straightCase{{"small bags", n, one, two, want, is}})
					seen[is]++
				}
			}
		}
	}
	if seen[true] < 1000 || seen[false] < 1000 {
		t.Fatal(seen)
	}
}

// checkTogether asks whether what goes Straight of two pairs of bags together is what goes of each, together, where that goes of both at all.
func checkTogether(t *testing.T, n impl.Node, first [2][]impl.Count, second [2][]impl.Count) bool {
	t.Helper()
	one, oneIs := impl.Straight(n, first[0], first[1])
	other, otherIs := impl.Straight(n, second[0], second[1])
	if !oneIs || !otherIs {
		return false
	}
	sum, is := impl.Straight(n, impl.Plus(first[0], second[0]), impl.Plus(first[1], second[1]))
	if !is || !sameBag(sum, impl.Plus(one, other)) {
		t.Fatalf("Straight(%v, ..) of %v and %v together is %v, %v, of each it is %v and %v", n, first, second, sum, is, one, other)
	}
	return true
}

// Promise 11, for NdWhere and NdKeep: with N above 0 and below it, and with N that cancel one another.
func TestStraightOfTwoTogether(t *testing.T) {
	for _, n := range straightNodes() {
		together := 0
		for _, rows := range [][][]int64{{{1}, {1, 1}, {2, 1}}, {{1, 1}, {1, 2}, {2, 1}}} {
			bags := smallBags(rows)
			for _, a := range bags {
				for _, b := range bags {
					if checkTogether(t, n, [2][]impl.Count{a, nil}, [2][]impl.Count{b, nil}) {
						together++
					}
				}
			}
		}
		if together < 64*64 {
			t.Fatalf("of %v it goes of %d pairs alone", n, together)
		}
	}
}

// Promise 11, for NdBoth, of which two bags go each.
func TestBothOfTwoTogether(t *testing.T) {
	bags := smallBags([][]int64{{1, 1}, {2}})
	for _, a := range bags {
		for _, b := range bags {
			for _, c := range bags {
				for _, d := range bags {
					if !checkTogether(t, node(5), [2][]impl.Count{a, b}, [2][]impl.Count{c, d}) {
						t.Fatal("nothing goes of both", a, b, c, d)
					}
				}
			}
		}
	}
}

// Promise 11 of bags that are as far from 0 as may be, and of full ones.
func TestStraightOfTwoGreatBagsTogether(t *testing.T) {
	great := bag(count(1000000, 1, 1), count(-1000000, 2, 1), count(500000, 3, 3))
	full := impl.KeptOf(bagOfSize(300), []int64{0, 0})
	for _, n := range straightNodes() {
		for _, first := range [][]impl.Count{nil, great, full} {
			for _, second := range [][]impl.Count{nil, impl.Minus(first), first[:len(first)/2]} {
				if !impl.BagOk(impl.Plus(first, second)) {
					continue
				}
				if !checkTogether(t, n, [2][]impl.Count{first, nil}, [2][]impl.Count{second, nil}) {
					t.Fatalf("nothing goes of %v", n)
				}
			}
		}
	}
}

// Promise 11, one by one: what goes of a bag n times is n times what goes of it.
func TestStraightOfScaled(t *testing.T) {
	bags := smallBags([][]int64{{1, 1}, {1, 2}, {2, 1}})
	for _, n := range straightNodes() {
		for _, one := range bags {
			for _, two := range [][]impl.Count{nil, bags[len(bags)-1], bags[21]} {
				once, _ := impl.Straight(n, one, two)
				for _, scale := range scales() {
					got, is := impl.Straight(n, impl.Scaled(one, scale), impl.Scaled(two, scale))
					if !is || !sameBag(got, impl.Scaled(once, scale)) {
						t.Fatalf("Straight(%v, ..) of %v and %v %d times is %v, %v, once it is %v", n, one, two, scale, got, is, once)
					}
				}
			}
		}
	}
}

// Of one and the same rows a node means what goes straight on.
func TestStraightIsWhatIsMeant(t *testing.T) {
	b := shopTables()
	for _, text := range []string{"where $1=5", "where -", "where $0<$1,$0>1", "keep 1", "keep 0 0 1", "keep 1 0"} {
		v := readView(t, "table a; "+text)
		parts, _ := impl.Parts(b, v)
		if got, is := impl.Straight(v[1], parts[0], nil); !is || !sameBag(got, parts[1]) {
			t.Errorf("Straight of %s = %v, %v, but it means %v", text, got, is, parts[1])
		}
	}
	parts, _ := impl.Parts(b, readView(t, "table a; table b; both"))
	if got, is := impl.Straight(node(5), parts[0], parts[1]); !is || !sameBag(got, parts[2]) {
		t.Errorf("Straight of both = %v, %v, but it means %v", got, is, parts[2])
	}
}

// Promise 21, as far as something goes straight on.
func TestLinearAnswersAreNew(t *testing.T) {
	counts := bag(count(2, 1, 5), count(1, 2, 5), count(-1, 3, 7), count(4, 5, 5), count(1, 8, 8))
	unlike := bag(count(3, 1), count(1, 1, 1), count(2, 5), count(-1, 5, 1), count(7, 9))
	wrong := bag(count(1, 5), count(0, 1), count(1, 1), count(1, 9))
	nodes := append(straightNodes(), node(6), node(3, 5), whereNode(toNumber(5, 2, 1)), whereNode(toNumber(9, 9, 9)), groupNode(0, 1))
	for _, ahead := range [][]impl.Count{counts, unlike, wrong} {
		for size := range 5 {
			b, bagMemory := roomyBag(size, ahead...)
			places := []int64{0, 1, 0, 0, 9, 8}
			memory := func() string { return bagMemory() + fmt.Sprint(places) }
			for many := range 6 {
				checkAnswersNew(t, "KeptOf", memory, func() []impl.Count { return impl.KeptOf(b, places[:many]) })
			}
			for _, n := range []int64{-1001, -1000, -1, 0, 1, 2, 1000, 1001} {
				checkAnswersNew(t, "Scaled", memory, func() []impl.Count { return impl.Scaled(b, n) })
			}
		}
		for _, behind := range [][]impl.Count{nil, counts, unlike, wrong} {
			a, aMemory := roomyBag(3, ahead...)
			b, bMemory := roomyBag(min(2, len(behind)), behind...)
			v, viewMemory := roomyView(len(nodes), nodes...)
			memory := func() string { return aMemory() + "|" + bMemory() + "|" + viewMemory() }
			for _, n := range v {
				checkAnswersNew(t, fmt.Sprint("Straight ", n), memory, func() []impl.Count { return straightAlone(n, a, b) })
				checkAnswersNew(t, fmt.Sprint("Straight of one and itself ", n), memory, func() []impl.Count { return straightAlone(n, a, a) })
			}
		}
	}
}

func straightAlone(n impl.Node, one []impl.Count, two []impl.Count) []impl.Count {
	b, _ := impl.Straight(n, one, two)
	return b
}

// The rows of an argument may share memory with each other, and with the places.
func TestLinearOfRowsInOneMemory(t *testing.T) {
	cells := []int64{0, 1, 0, 1}
	b := []impl.Count{{Row: cells[:1], N: 1}, {Row: cells[:2], N: 2}, {Row: cells[1:3], N: 3}}
	was := slices.Clone(cells)
	answers := [][]impl.Count{
		impl.KeptOf(b, cells[:1]), impl.KeptOf(b, cells[2:3]), impl.KeptOf(b, nil), impl.Scaled(b, 1), impl.Scaled(b, -2),
		straightAlone(whereNode(), b, nil), straightAlone(node(3, cells[2:3]...), b, b), straightAlone(node(5), b, nil), straightAlone(node(5), nil, b), straightAlone(node(5), b, b),
	}
	checkCellsStay(t, cells, was, answers)
}

func TestStraightLeavesItsNodes(t *testing.T) {
	one, oneMemory := roomyBag(2, count(1, 1, 5), count(2, 2, 5), count(1, 3, 7))
	oneWas := oneMemory()
	eachRoomyView(func(v []impl.Node, memory func() string) {
		was := memory()
		for _, n := range v {
			overwriteBag(straightAlone(n, one, one))
			impl.KeptOf(one, n.Places)
			impl.Scaled(one, n.Place)
		}
		if memory() != was || oneMemory() != oneWas {
			t.Fatalf("an argument was written into: %s, it was %s", memory(), was)
		}
	})
}
