package tests

import (
	"cmp"
	"fmt"
	"math"
	"slices"
	"strings"
	"testing"

	"loop.example/g00604/impl"
)

// toNumber is a cond against a number, toPlace one against another place.
func toNumber(place int64, op int64, number int64) impl.Cond {
	return impl.Cond{Place: place, Op: op, Other: number, Is: true}
}

func toPlace(place int64, op int64, other int64) impl.Cond {
	return impl.Cond{Place: place, Op: op, Other: other}
}

func conds(l ...impl.Cond) []impl.Cond { return l }

type condsText struct {
	conds []impl.Cond
	text  string
}

func rightConds() []condsText {
	return []condsText{
		{nil, "-"},
		{[]impl.Cond{}, "-"},
		{conds(toNumber(0, 1, 5)), "$0<5"},
		{conds(toNumber(0, 2, 5)), "$0=5"},
		{conds(toNumber(0, 3, 5)), "$0>5"},
		{conds(toPlace(0, 1, 1)), "$0<$1"},
		{conds(toPlace(0, 2, 1)), "$0=$1"},
		{conds(toPlace(0, 3, 1)), "$0>$1"},
		{conds(toNumber(1, 2, 0)), "$1=0"},
		{conds(toNumber(1, 2, -1)), "$1=-1"},
		{conds(toNumber(1, 2, 6)), "$1=6"},
		{conds(toNumber(5, 3, 1000)), "$5>1000"},
		{conds(toNumber(5, 1, -1000)), "$5<-1000"},
		{conds(toNumber(2, 1, 999)), "$2<999"},
		{conds(toNumber(2, 1, -999)), "$2<-999"},
		{conds(toPlace(0, 2, 0)), "$0=$0"},
		{conds(toPlace(5, 3, 0)), "$5>$0"},
		{conds(toPlace(0, 1, 5)), "$0<$5"},
		{conds(toPlace(5, 2, 5)), "$5=$5"},
		{conds(toNumber(0, 1, 1), toPlace(0, 1, 1)), "$0<1,$0<$1"},
		{conds(toPlace(0, 1, 1), toNumber(0, 1, 1)), "$0<$1,$0<1"},
		{conds(toNumber(0, 2, 7), toNumber(0, 2, 7)), "$0=7,$0=7"},
		{conds(toPlace(0, 1, 1), toNumber(1, 2, 5), toNumber(0, 3, -2)), "$0<$1,$1=5,$0>-2"},
		{conds(toNumber(5, 1, -1000), toNumber(5, 1, -1000), toNumber(5, 1, -1000)), "$5<-1000,$5<-1000,$5<-1000"},
		{conds(toPlace(1, 3, 0), toPlace(2, 3, 1), toPlace(3, 3, 2)), "$1>$0,$2>$1,$3>$2"},
	}
}

// wrongConds are not right, whatever the width.
func wrongConds() map[string]impl.Cond {
	return map[string]impl.Cond{
		"the zero Cond":                 {},
		"the zero Cond, against 0":      {Is: true},
		"Place of -1":                   toNumber(-1, 2, 1),
		"Place of 6":                    toNumber(6, 2, 1),
		"Place of 7":                    toNumber(7, 2, 1),
		"least Place":                   toNumber(math.MinInt64, 2, 1),
		"greatest Place":                toNumber(math.MaxInt64, 2, 1),
		"Place 2^32 more":               toNumber(1<<32, 2, 1),
		"Place of -1, against a place":  toPlace(-1, 2, 1),
		"Place of 6, against a place":   toPlace(6, 2, 1),
		"Op of 0":                       toNumber(0, 0, 1),
		"Op of 4":                       toNumber(0, 4, 1),
		"Op of -1":                      toNumber(0, -1, 1),
		"least Op":                      toNumber(0, math.MinInt64, 1),
		"greatest Op":                   toNumber(0, math.MaxInt64, 1),
		"Op 2^32 more":                  toNumber(0, 1<<32+1, 1),
		"Op of 0, against a place":      toPlace(0, 0, 1),
		"Op of 4, against a place":      toPlace(0, 4, 1),
		"Other a place of -1":           toPlace(0, 2, -1),
		"Other a place of 6":            toPlace(0, 2, 6),
		"Other a place of 1000":         toPlace(0, 2, 1000),
		"Other the least place":         toPlace(0, 2, math.MinInt64),
		"Other the greatest place":      toPlace(0, 2, math.MaxInt64),
		"Other a place 2^32 more":       toPlace(0, 2, 1<<32),
		"Other a number one too small":  toNumber(0, 2, -1001),
		"Other a number one too large":  toNumber(0, 2, 1001),
		"Other the least number":        toNumber(0, 2, math.MinInt64),
		"Other the greatest number":     toNumber(0, 2, math.MaxInt64),
		"Other a number 2^32 more":      toNumber(0, 2, 1<<32),
		"Other the greatest of a row's": toNumber(0, 2, 1000000000),
		"all of it wrong":               toNumber(-1, 9, 5000),
	}
}

// wrongCondLists have a wrong cond at each place among right ones, or are too many.
func wrongCondLists() map[string][]impl.Cond {
	right := toNumber(0, 3, -1000)
	lists := map[string][]impl.Cond{
		"4 conds":           slices.Repeat(conds(right), 4),
		"5 conds":           slices.Repeat(conds(right), 5),
		"1000 conds":        slices.Repeat(conds(right), 1000),
		"4 different conds": conds(toNumber(0, 1, 5), toNumber(0, 2, 4), toNumber(0, 3, 3), toPlace(0, 2, 0)),
	}
	for name, wrong := range wrongConds() {
		lists[name] = conds(wrong)
		lists[name+", first"] = conds(wrong, right, right)
		lists[name+", between"] = conds(right, wrong, right)
		lists[name+", last"] = conds(right, right, wrong)
		lists[name+", of two"] = conds(right, wrong)
	}
	return lists
}

func TestCondConstants(t *testing.T) {
	if impl.OpLess != 1 || impl.OpSame != 2 || impl.OpMore != 3 {
		t.Fatal(impl.OpLess, impl.OpSame, impl.OpMore)
	}
}

// Promise 7: ReadConds of ShowConds are the conds.
func TestRightCondsAreOkShownAndReadBack(t *testing.T) {
	for _, c := range rightConds() {
		if !impl.CondsOk(c.conds, 6) {
			t.Errorf("CondsOk(%v, 6) is false", c.conds)
		}
		if got := impl.ShowConds(c.conds); got != c.text {
			t.Errorf("ShowConds(%v) = %q, want %q", c.conds, got, c.text)
		}
		if got, is := impl.ReadConds(c.text); !is || !slices.Equal(got, c.conds) {
			t.Errorf("ReadConds(%q) = %v, %v, want %v", c.text, got, is, c.conds)
		}
	}
}

// allConds are all of these places and ops, with Others about the limits; most of them are right.
func allConds() []impl.Cond {
	others := []int64{-1001, -1000, -999, -10, -1, 0, 1, 2, 3, 4, 5, 6, 7, 10, 100, 999, 1000, 1001}
	var l []impl.Cond
	for place := int64(-2); place <= 7; place++ {
		for op := int64(-1); op <= 5; op++ {
			for _, other := range others {
				l = append(l, toNumber(place, op, other), toPlace(place, op, other))
			}
		}
	}
	return l
}

// isRightCond asks what the chapter tells of one cond.
func isRightCond(c impl.Cond) bool {
	least, most := int64(0), int64(5)
	if c.Is {
		least, most = -1000, 1000
	}
	return c.Place >= 0 && c.Place <= 5 && c.Op >= 1 && c.Op <= 3 && c.Other >= least && c.Other <= most
}

// Promise 7, for every place, every op and Others about the limits.
func TestEveryCondIsReadBack(t *testing.T) {
	shown := map[string]bool{}
	right := 0
	for _, c := range allConds() {
		for _, l := range [][]impl.Cond{conds(c), conds(toPlace(0, 2, 0), c), conds(c, toPlace(0, 2, 0), c)} {
			if got := impl.CondsOk(l, 6); got != isRightCond(c) {
				t.Fatalf("CondsOk(%v, 6) is %v", l, got)
			}
			text := impl.ShowConds(l)
			if !isRightCond(c) {
				if text != "" {
					t.Fatalf("ShowConds(%v) = %q", l, text)
				}
				continue
			}
			if got, is := impl.ReadConds(text); !is || !slices.Equal(got, l) {
				t.Fatalf("%v are shown as %q and read as %v, %v", l, text, got, is)
			}
			right++
			shown[text] = true
		}
	}
	if right != len(shown) || right != 3*6*3*(16+6) {
		t.Fatalf("%d lists are right, of %d texts", right, len(shown))
	}
}

func TestUpToThreeConds(t *testing.T) {
	for size := range 10 {
		var l []impl.Cond
		var texts []string
		for i := range size {
			l = append(l, toNumber(0, 1, int64(10+i)))
			texts = append(texts, fmt.Sprint("$0<", 10+i))
		}
		text := strings.Join(texts, ",")
		if size == 0 {
			text = "-"
		}
		want := size <= 3
		if impl.CondsOk(l, 1) != want || impl.Holds(l, []int64{9}) != want || (len(impl.Sifted(l, bag(count(1, 9)))) == 1) != want {
			t.Errorf("%d conds: %v, %v, %v", size, impl.CondsOk(l, 1), impl.Holds(l, []int64{9}), impl.Sifted(l, bag(count(1, 9))))
		}
		if got := impl.ShowConds(l); want && got != text || !want && got != "" {
			t.Errorf("ShowConds of %d conds = %q", size, got)
		}
		got, is := impl.ReadConds(text)
		if is != want || is && !slices.Equal(got, l) || !is && len(got) != 0 {
			t.Errorf("ReadConds(%q) = %v, %v", text, got, is)
		}
	}
}

func TestCondsOkByWidth(t *testing.T) {
	widths := []int64{math.MinInt64, -1000, -1, 0, 1, 2, 3, 4, 5, 6, 7, 8, 1000, math.MaxInt64}
	for _, width := range widths {
		// Of no cond no place is asked for.
		if !impl.CondsOk(nil, width) || !impl.CondsOk([]impl.Cond{}, width) {
			t.Errorf("CondsOk of no cond, for width %d, is false", width)
		}
		for place := range int64(6) {
			for other := range int64(6) {
				want := place < width && other < width
				if got := impl.CondsOk(conds(toPlace(place, 2, other)), width); got != want {
					t.Errorf("CondsOk of the places %d and %d, for width %d, is %v", place, other, width, got)
				}
				l := conds(toPlace(place, 1, place), toNumber(other, 3, 1000))
				if got := impl.CondsOk(l, width); got != want {
					t.Errorf("CondsOk(%v, %d) is %v", l, width, got)
				}
			}
			// A number is no place, however large.
			for _, number := range []int64{-1000, 0, 1, 5, 6, 1000} {
				if got := impl.CondsOk(conds(toNumber(place, 2, number)), width); got != (place < width) {
					t.Errorf("CondsOk of the place %d and the number %d, for width %d, is %v", place, number, width, got)
				}
			}
		}
	}
}

func TestWrongCondsAreRefused(t *testing.T) {
	rows := [][]int64{nil, {0}, {1}, {1, 1}, {0, 0, 0, 0, 0, 0}, {5, 5, 5, 5, 5, 5}}
	for name, l := range wrongCondLists() {
		for _, width := range []int64{math.MinInt64, -1, 0, 1, 2, 5, 6, 7, 8, 1001, math.MaxInt64} {
			if impl.CondsOk(l, width) {
				t.Errorf("%s: CondsOk(.., %d) is true", name, width)
			}
		}
		if got := impl.ShowConds(l); got != "" {
			t.Errorf("%s: ShowConds = %q", name, got)
		}
		for _, row := range rows {
			if impl.Holds(l, row) {
				t.Errorf("%s: Holds(.., %v) is true", name, row)
			}
		}
		if got := impl.Sifted(l, impl.BagOf(rows)); len(got) != 0 {
			t.Errorf("%s: Sifted = %v", name, got)
		}
		if got := impl.Sifted(l, nil); len(got) != 0 {
			t.Errorf("%s: Sifted of no row = %v", name, got)
		}
	}
}

func TestHoldsOfEachOp(t *testing.T) {
	cases := []struct {
		one, other       int64
		less, same, more bool
	}{
		{1, 2, true, false, false},
		{2, 2, false, true, false},
		{3, 2, false, false, true},
		{0, 0, false, true, false},
		{-1, 0, true, false, false},
		{0, -1, false, false, true},
		{-5, -4, true, false, false},
		{-5, -5, false, true, false},
		{-5, -6, false, false, true},
		{-7, 7, true, false, false},
		{10, 9, false, false, true},
		{999, 1000, true, false, false},
		{1000, 1000, false, true, false},
		{1001, 1000, false, false, true},
		{-1001, -1000, true, false, false},
		{-1000, -1000, false, true, false},
		{-999, -1000, false, false, true},
		{1000000000, 1000, false, false, true},
		{-1000000000, -1000, true, false, false},
	}
	for _, c := range cases {
		for op, want := range map[int64]bool{impl.OpLess: c.less, impl.OpSame: c.same, impl.OpMore: c.more} {
			if got := impl.Holds(conds(toNumber(0, op, c.other)), []int64{c.one}); got != want {
				t.Errorf("%d, op %d, the number %d: Holds is %v", c.one, op, c.other, got)
			}
			if got := impl.Holds(conds(toPlace(0, op, 1)), []int64{c.one, c.other}); got != want {
				t.Errorf("%d, op %d, %d at the place behind: Holds is %v", c.one, op, c.other, got)
			}
			if got := impl.Holds(conds(toPlace(1, op, 0)), []int64{c.other, c.one}); got != want {
				t.Errorf("%d, op %d, %d at the place ahead: Holds is %v", c.one, op, c.other, got)
			}
			if got := impl.Holds(conds(toPlace(0, op, 0)), []int64{c.one}); got != (op == impl.OpSame) {
				t.Errorf("%d, op %d, itself: Holds is %v", c.one, op, got)
			}
		}
	}
}

func TestHolds(t *testing.T) {
	wide := []int64{-1000000000, -1, 0, 1, 1, 1000000000}
	three := conds(toPlace(0, 1, 1), toNumber(1, 2, 5), toNumber(0, 3, -2))
	cases := []struct {
		name  string
		conds []impl.Cond
		row   []int64
		want  bool
	}{
		{"no cond, no number", nil, nil, true},
		{"no cond, an empty row", []impl.Cond{}, []int64{}, true},
		{"no cond, one number", nil, []int64{7}, true},
		{"no cond, the widest row", nil, wide, true},
		{"a place of no number", conds(toNumber(0, 2, 0)), nil, false},
		{"two places of no number", conds(toPlace(0, 2, 0)), []int64{}, false},
		{"all three hold", three, []int64{3, 5}, true},
		{"the first does not", three, []int64{5, 5}, false},
		{"the second does not", three, []int64{3, 6}, false},
		{"the third does not", three, []int64{-2, 5}, false},
		{"none does", three, []int64{-3, -4}, false},
		{"all three hold, of a longer row", three, []int64{3, 5, 9, 9}, true},
		{"the row lacks a place", three, []int64{3}, false},
		{"the same one three times", conds(toNumber(0, 2, 7), toNumber(0, 2, 7), toNumber(0, 2, 7)), []int64{7}, true},
		{"two that can't both hold", conds(toNumber(0, 1, 7), toNumber(0, 3, 7)), []int64{7}, false},
		{"the last place of the widest row", conds(toNumber(5, 3, 1000)), wide, true},
		{"the last place, not so", conds(toNumber(5, 1, 1000)), wide, false},
		{"the first and the last place", conds(toPlace(0, 1, 5)), wide, true},
		{"the last and the first place", conds(toPlace(5, 1, 0)), wide, false},
		{"two places alike", conds(toPlace(3, 2, 4)), wide, true},
		{"a number as large as a place", conds(toNumber(3, 2, 1)), wide, true},
		{"just less than the width", conds(toNumber(2, 2, 0)), []int64{9, 9, 0}, true},
		{"the width", conds(toNumber(3, 2, 0)), []int64{9, 9, 0}, false},
		{"Other just less than the width", conds(toPlace(0, 2, 2)), []int64{9, 8, 9}, true},
		{"Other the width", conds(toPlace(0, 2, 3)), []int64{9, 8, 9}, false},
		{"spare room is not of the row", conds(toNumber(2, 2, 0)), []int64{9, 9, 0}[:2], false},
		{"spare room is not of the row, Other", conds(toPlace(0, 2, 2)), []int64{9, 9, 9}[:2], false},
		{"one that holds and one that is not right for it", conds(toNumber(0, 2, 9), toNumber(1, 2, 9)), []int64{9}, false},
	}
	for _, c := range cases {
		if got := impl.Holds(c.conds, c.row); got != c.want {
			t.Errorf("%s: Holds(%v, %v) = %v", c.name, c.conds, c.row, got)
		}
	}
}

func TestNothingHoldsOfWhatIsNoRow(t *testing.T) {
	for _, row := range wrongRows() {
		for _, c := range rightConds() {
			if impl.Holds(c.conds, row) {
				t.Errorf("Holds(%v, %v) is true", c.conds, row)
			}
		}
	}
	// A wrong number is no row, also where no cond looks at it, and where each of them would hold.
	for _, row := range [][]int64{{5, 1000000001}, {1000000001, 5}, {5, -1000000001}, {5, 5, 5, 5, 5, 5, 5}} {
		for _, l := range [][]impl.Cond{nil, conds(toNumber(0, 3, 0)), conds(toPlace(0, 2, 0)), conds(toPlace(1, 2, 1))} {
			if impl.Holds(l, row) {
				t.Errorf("Holds(%v, %v) is true", l, row)
			}
		}
	}
}

// numberAt is what a side of a cond stands for; false where the row has no such place.
func numberAt(row []int64, n int64, is bool) (int64, bool) {
	if is {
		return n, true
	}
	if n >= int64(len(row)) {
		return 0, false
	}
	return row[n], true
}

// allHold asks of right conds, one by one, what the chapter tells.
func allHold(l []impl.Cond, row []int64) bool {
	for _, c := range l {
		one, there := numberAt(row, c.Place, false)
		other, too := numberAt(row, c.Other, c.Is)
		// Less is 1, the same 2, more 3.
		if !there || !too || int64(cmp.Compare(one, other))+2 != c.Op {
			return false
		}
	}
	return true
}

// smallRows are all rows of at most that many of these numbers.
func smallRows(width int, numbers ...int64) [][]int64 {
	rows := [][]int64{nil}
	for i := 0; len(rows[i]) < width; i++ {
		for _, n := range numbers {
			rows = append(rows, append(slices.Clone(rows[i]), n))
		}
	}
	return rows
}

// smallConds are all lists of at most two conds of few places and numbers.
func smallConds() [][]impl.Cond {
	var each []impl.Cond
	for place := range int64(3) {
		for op := int64(1); op <= 3; op++ {
			each = append(each, toNumber(place, op, 0), toPlace(place, op, 0), toPlace(place, op, 2))
		}
	}
	lists := [][]impl.Cond{nil}
	for _, c := range each {
		lists = append(lists, conds(c))
		for _, d := range each {
			lists = append(lists, conds(c, d))
		}
	}
	return lists
}

func TestHoldsOfAllSmallCondsAndRows(t *testing.T) {
	rows := smallRows(3, -1, 0, 2)
	all := impl.BagOf(rows)
	for _, l := range smallConds() {
		var held [][]int64
		for _, row := range rows {
			want := allHold(l, row)
			if got := impl.Holds(l, row); got != want {
				t.Fatalf("Holds(%v, %v) is %v", l, row, got)
			}
			if want {
				held = append(held, row)
			}
		}
		if got := impl.Sifted(l, all); !sameBag(got, impl.BagOf(held)) {
			t.Fatalf("Sifted(%v, ..) = %v, want %v", l, got, held)
		}
	}
}

func TestSifted(t *testing.T) {
	b := bag(count(2), count(3, -1), count(1, -1, 0), count(-4, 0), count(-1, 0, -7), count(1000000, 5, 5), count(-1000000, 5, 6))
	cases := []struct {
		name  string
		conds []impl.Cond
		bag   []impl.Count
		want  string
	}{
		{"no row", conds(toNumber(0, 2, 0)), nil, ""},
		{"no row, no cond", nil, []impl.Count{}, ""},
		{"no cond: all of them", nil, b, "-x2;-1x3;-1 0;0x-4;0 -7x-1;5 5x1000000;5 6x-1000000"},
		{"the row of no number lacks a place", conds(toPlace(0, 2, 0)), b, "-1x3;-1 0;0x-4;0 -7x-1;5 5x1000000;5 6x-1000000"},
		{"shorter rows lack a place", conds(toPlace(1, 2, 1)), b, "-1 0;0 -7x-1;5 5x1000000;5 6x-1000000"},
		{"all rows lack a place", conds(toPlace(2, 2, 2)), b, ""},
		{"less than 0", conds(toNumber(0, 1, 0)), b, "-1x3;-1 0"},
		{"the same as 0, below 0 times", conds(toNumber(0, 2, 0)), b, "0x-4;0 -7x-1"},
		{"more than 0", conds(toNumber(0, 3, 0)), b, "5 5x1000000;5 6x-1000000"},
		{"two places alike", conds(toPlace(0, 2, 1)), b, "5 5x1000000"},
		{"one less than the other", conds(toPlace(0, 1, 1)), b, "-1 0;5 6x-1000000"},
		{"one more than the other", conds(toPlace(0, 3, 1)), b, "0 -7x-1"},
		{"none of them", conds(toNumber(0, 3, 5)), b, ""},
		{"all three", conds(toNumber(0, 3, -1), toNumber(0, 1, 6), toNumber(1, 3, -7)), b, "5 5x1000000;5 6x-1000000"},
		{"spare room is not of the bag", conds(toNumber(0, 3, 0)), b[:6], "5 5x1000000"},
		{"the row of no number alone", nil, bag(count(-2)), "-x-2"},
		{"the row of no number alone, a cond", conds(toNumber(0, 2, 0)), bag(count(-2)), ""},
	}
	for _, c := range cases {
		got := impl.Sifted(c.conds, c.bag)
		if !impl.BagOk(got) || impl.ShowBag(got) != c.want {
			t.Errorf("%s: Sifted(%v, %v) = %v, want %q", c.name, c.conds, c.bag, got, c.want)
		}
	}
}

func TestSiftedUpToMaxBag(t *testing.T) {
	for _, size := range []int{299, 300} {
		b := bagOfSize(size)
		if got := impl.Sifted(nil, b); !sameBag(got, b) {
			t.Errorf("Sifted by no cond of %d rows has %d", size, len(got))
		}
		if got := impl.Sifted(conds(toNumber(0, 1, 20)), b); !sameBag(got, bagOfSize(10)) {
			t.Errorf("Sifted of %d rows = %v", size, got)
		}
	}
	if got := impl.Sifted(conds(toNumber(0, 1, 20)), bagOfSize(301)); len(got) != 0 {
		t.Errorf("Sifted of one row more than MaxBag = %v", got)
	}
}

func TestSiftedOfWhatIsNoBag(t *testing.T) {
	lists := [][]impl.Cond{nil, conds(toNumber(0, 3, -1000)), conds(toPlace(0, 2, 0)), conds(toNumber(0, 1, 1000), toNumber(0, 3, 0))}
	for name, b := range wrongBags() {
		for _, l := range lists {
			if got := impl.Sifted(l, b); len(got) != 0 {
				t.Errorf("%s: Sifted(%v, ..) = %v", name, l, got)
			}
		}
	}
}

// Promise 7: what Holds is Sifted, of two bags together as of each.
func TestSiftedOfTwoBagsTogetherAsOfEach(t *testing.T) {
	rows := [][]int64{{}, {-1}, {0, -5}, {0, 5}}
	lists := [][]impl.Cond{
		nil,
		conds(toNumber(0, 1, 0)),
		conds(toNumber(0, 2, 0)),
		conds(toNumber(1, 3, -5)),
		conds(toPlace(1, 1, 0)),
		conds(toPlace(0, 2, 0)),
		conds(toNumber(0, 2, 0), toPlace(0, 1, 1)),
		conds(toNumber(3, 2, 0)),
	}
	bags := smallBags(rows)
	for _, l := range lists {
		sifted := make([][]impl.Count, len(bags))
		for i, b := range bags {
			sifted[i] = impl.Sifted(l, b)
			checkTimes(t, fmt.Sprint("Sifted by ", l), sifted[i], rows, func(row []int64) int64 {
				if !impl.Holds(l, row) {
					return 0
				}
				return impl.TimesIn(b, row)
			})
			if !sameBag(impl.Sifted(l, sifted[i]), sifted[i]) {
				t.Fatalf("%v, Sifted again by %v, is another one", sifted[i], l)
			}
		}
		for i, a := range bags {
			for j, b := range bags {
				if !sameBag(impl.Sifted(l, impl.Plus(a, b)), impl.Plus(sifted[i], sifted[j])) {
					t.Fatalf("%v and %v, Sifted by %v, are not together what they are each", a, b, l)
				}
			}
		}
	}
}

// Of two lists of conds the one behind the other sifts what both together do.
func TestSiftedByEachCondOfThem(t *testing.T) {
	all := impl.BagOf(smallRows(3, -1, 0, 2))
	for _, l := range smallConds() {
		each := all
		for _, c := range l {
			each = impl.Sifted(conds(c), each)
		}
		if got := impl.Sifted(l, all); !sameBag(got, each) {
			t.Fatalf("Sifted(%v, ..) = %v, one by one %v", l, got, each)
		}
	}
}

func textsOfNoConds() []string {
	return []string{
		// what is missing
		"", " ", "$", "$0", "$0=", "$0=$", "=", "=1", "=$1", "$=1", "$=$", "$=$1", "<", ">", "0", "1", "$01", "$0$1", "01",
		// what is a number and what is a place
		"0=1", "0=$1", "1=$0", "$$0=1", "$0=$$1", "$0$=1", "$0=1$", "0$=1", "$0=1$1", "-$0=1", "$0=-$1", "$-0=1", "$0=$-0", "$0=$-1", "$-1=1", "#0=1",
		// numbers
		"$00=1", "$01=1", "$+0=1", "$0=01", "$0=00", "$0=+1", "$0=+0", "$0=-0", "$0=-01", "$0=--1", "$0=-", "$0=$01", "$0=$00", "$0=$+1",
		"$0=x", "$x=1", "$0=1x", "$0=0x1", "$0=1_0", "$0=1.0", "$0=1e2", "$0=\u0661", "$\u0661=1", "$0=\xff", "$0=\u2212" + "1",
		"$6=1", "$7=1", "$10=1", "$0=$6", "$0=$7", "$0=$10", "$0=$1000", "$0=1001", "$0=-1001", "$0=10000", "$0=999999999", "$0=1000000000", "$0=-1000000000",
		"$0=9223372036854775807", "$0=9223372036854775808", "$0=-9223372036854775808", "$0=18446744073709551617", "$18446744073709551616=1", "$4294967296=1", "$0=$4294967296",
		"$0=" + strings.Repeat("1", 5000), "$0=" + strings.Repeat("0", 5000) + "1", "$" + strings.Repeat("0", 5000) + "=1",
		// ops
		"$0!1", "$0!=1", "$0==1", "$0<=1", "$0>=1", "$0=<1", "$0<>1", "$0><1", "$0<<1", "$0>>1", "$0~1", "$0:1", "$0;1", "$0-1", "$0+1", "$0 1", "$0\x001", "$021", "$0\u2264" + "1",
		"$0=1=1", "$0<1<2", "$0<$1<$2", "$0<1>0", "<$0=1", "$0=1>", "$0 is 1",
		// blanks
		" $0=1", "$0=1 ", "$0 =1", "$0= 1", "$ 0=1", "$0=$ 1", "$0=1, $1=2", "$0=1 ,$1=2", "$0=1 $1=2", "$0=1\n", "\n$0=1", "$0=\t1", "\x00$0=1", "$0=1\x00", "$0=1\r",
		// commas
		",", ",,", "$0=1,", ",$0=1", "$0=1,,$1=2", "$0=1,$1=2,", ",$0=1,$1=2", "$0=1,$1=2,$2=3,", ",$0=1,$1=2,$2=3", "$0=1,$1=2,,", ",,$0=1", "$0,=1", "$,0=1", "$0=,1", "$0=1,1", "$0=1,000",
		"$0=1;$1=2", "$0=1&$1=2", "$0=1$1=2", "$0=1.$1=2",
		// none
		"--", "- ", " -", "-,", ",-", "-,-", "-,$0=1", "$0=1,-", "-$0=1,", "+", "none",
		// too many, and one wrong among right ones
		"$0=1,$0=1,$0=1,$0=1", "$0=1,$0=1,$0=1,$0=1,$0=1", "$0=1,$0=1,$0=1,x", "$0=1,$0=1,$0=1,-", strings.Repeat("$0=1,", 5000), strings.Repeat("$0=1,", 5000) + "$0=1", strings.Repeat(",", 5000),
		"$6=1,$0=1,$0=1", "$0=1,$6=1,$0=1", "$0=1,$0=1,$6=1", "$0=1,x,$0=1", "x,$0=1", "$0=1,$0", "$0=1,$0=01", "$0=01,$0=1",
	}
}

func TestTextsOfNoConds(t *testing.T) {
	for _, s := range textsOfNoConds() {
		if l, is := impl.ReadConds(s); is || len(l) != 0 {
			t.Errorf("ReadConds(%.40q) = %v, %v", s, l, is)
		}
	}
}

// Each byte but three is none of an op.
func TestReadCondsOfEveryByteInThePlaceOfTheOp(t *testing.T) {
	ops := map[byte]int64{'<': impl.OpLess, '=': impl.OpSame, '>': impl.OpMore}
	for b := range 256 {
		op, known := ops[byte(b)]
		sign := string([]byte{byte(b)})
		for _, c := range []condsText{
			{conds(toNumber(1, op, -20)), "$1" + sign + "-20"},
			{conds(toPlace(1, op, 4)), "$1" + sign + "$4"},
			{conds(toNumber(0, 1, 1), toNumber(5, op, 0)), "$0<1,$5" + sign + "0"},
		} {
			got, is := impl.ReadConds(c.text)
			if is != known || is && !slices.Equal(got, c.conds) || !is && len(got) != 0 {
				t.Errorf("ReadConds(%q) = %v, %v", c.text, got, is)
			}
		}
	}
}

// checkShownAgain sees to it that whatever ReadConds takes, ShowConds makes again.
func checkShownAgain(t *testing.T, s string) bool {
	t.Helper()
	l, is := impl.ReadConds(s)
	if is && (!impl.CondsOk(l, 6) || impl.ShowConds(l) != s) || !is && len(l) != 0 {
		t.Fatalf("ReadConds(%q) = %v, %v", s, l, is)
	}
	return is
}

// Every right text with one byte put in, taken out or made another.
func TestReadCondsTakesNothingButWhatIsShown(t *testing.T) {
	for _, c := range rightConds() {
		for at := range len(c.text) + 1 {
			for b := range 256 {
				put := c.text[:at] + string([]byte{byte(b)})
				checkShownAgain(t, put+c.text[at:])
				if at < len(c.text) {
					checkShownAgain(t, put+c.text[at+1:])
				}
			}
			checkShownAgain(t, c.text[:at])
			checkShownAgain(t, c.text[at:])
			if at < len(c.text) {
				checkShownAgain(t, c.text[:at]+c.text[at+1:])
			}
		}
	}
}

// All short texts of the bytes that matter: as many are taken as there are conds shown so.
func TestReadCondsOfAllShortTexts(t *testing.T) {
	taken := 0
	texts := []string{""}
	for range 6 {
		var longer []string
		for _, s := range texts {
			for _, b := range "$01<-+," {
				longer = append(longer, s+string(b))
			}
		}
		for _, s := range longer {
			if checkShownAgain(t, s) {
				taken++
			}
		}
		texts = longer
	}
	// 0, 1, 10, 11, 100, 101, 110, 111, -1, -10, -11, $0 and $1 behind $0< or $1<, and no cond.
	if want := 2*13 + 1; taken != want {
		t.Fatalf("%d texts are taken, want %d", taken, want)
	}
}

// overwriteConds writes into conds and into the spare room behind them.
func overwriteConds(l []impl.Cond) {
	l = l[:cap(l)]
	for i := range l {
		l[i] = toNumber(-97, -98, -99)
	}
}

// Promise 21, as far as conditions go.
func TestCondsStayAndAnswersAreNew(t *testing.T) {
	lists := [][]impl.Cond{
		nil,
		conds(toNumber(0, 3, 1)),
		conds(toNumber(0, 1, 5), toPlace(0, 2, 0)),
		conds(toNumber(0, 1, 5), toPlace(0, 2, 0), toNumber(0, 3, -5)),
		conds(toNumber(0, 3, 1000)),
		conds(toNumber(9, 9, 9)),
		slices.Repeat(conds(toNumber(0, 3, 1)), 5),
	}
	for _, list := range lists {
		room := append(slices.Clone(list), toNumber(0, 2, 71), toNumber(0, 2, 72))
		l := room[:len(list)]
		for size := range 5 {
			b, bagMemory := roomyBag(size, count(1, 1), count(-2, 2), count(3, 4), count(1, 5), count(1, 6))
			memory := func() string { return bagMemory() + fmt.Sprint(room) }
			was := memory()
			impl.CondsOk(l, 1)
			impl.ShowConds(l)
			for _, c := range b {
				impl.Holds(l, c.Row)
			}
			if memory() != was {
				t.Fatalf("an argument was written into: %v, %v", room, b)
			}
			checkAnswersNew(t, fmt.Sprint("Sifted by ", l), memory, func() []impl.Count { return impl.Sifted(l, b) })
		}
	}
}

func TestCondsReadAreNew(t *testing.T) {
	texts := []string{"", "x", "$0=1,", "$0=1,$0=1,$0=1,$0=1"}
	for _, c := range rightConds() {
		texts = append(texts, c.text)
	}
	for _, text := range texts {
		one, oneIs := impl.ReadConds(text)
		want := slices.Clone(one)
		other, otherIs := impl.ReadConds(text)
		overwriteConds(one)
		if !slices.Equal(other, want) || oneIs != otherIs {
			t.Fatalf("two answers of ReadConds(%q) share memory: %v", text, other)
		}
		if again, is := impl.ReadConds(text); !slices.Equal(again, want) || is != oneIs {
			t.Fatalf("ReadConds(%q) became %v, %v", text, again, is)
		}
	}
}

// The rows of a bag may share memory with each other, and with the row that is asked.
func TestSiftedOfRowsInOneMemory(t *testing.T) {
	cells := []int64{1, 2, 3, 4}
	was := slices.Clone(cells)
	got := impl.Sifted(conds(toPlace(0, 1, 1)), bag(count(1, cells[:2]...), count(1, cells[1:3]...), count(1, cells[2:]...)))
	if impl.ShowBag(got) != "1 2;2 3;3 4" {
		t.Fatal(got)
	}
	checkRowsApart(t, got)
	overwriteBag(got)
	if !slices.Equal(cells, was) {
		t.Fatal("an answer shares memory with an argument", cells)
	}
}

// What is refused is not written into either, and what is answered then is new.
func TestWhatIsNotSiftedStays(t *testing.T) {
	b, memory := roomyBag(3, count(1, 2), count(1, 1), count(0, 3), count(1, 9))
	checkAnswersNew(t, "Sifted of what is no bag", memory, func() []impl.Count { return impl.Sifted(nil, b) })
	room := []int64{1, 2, 3, 4, 5, 6, 7, 8}
	was := slices.Clone(room)
	for width := range len(room) + 1 {
		impl.Holds(conds(toNumber(0, 3, 0)), room[:width])
		impl.Holds(conds(toNumber(9, 9, 9)), room[:width])
	}
	if !slices.Equal(room, was) {
		t.Fatal("a row was written into", room)
	}
}
