package tests

import (
	"fmt"
	"math"
	"slices"
	"testing"

	"loop.example/g00604/impl"
)

func count(n int64, row ...int64) impl.Count { return impl.Count{Row: row, N: n} }

func bag(counts ...impl.Count) []impl.Count { return counts }

func sameBag(a []impl.Count, b []impl.Count) bool {
	return slices.EqualFunc(a, b, func(x, y impl.Count) bool {
		return x.N == y.N && slices.Equal(x.Row, y.Row)
	})
}

func cloneBag(b []impl.Count) []impl.Count {
	clone := make([]impl.Count, len(b))
	for i, c := range b {
		clone[i] = impl.Count{Row: slices.Clone(c.Row), N: c.N}
	}
	return clone
}

// bagOfSize has that many rows of one number.
func bagOfSize(size int) []impl.Count {
	b := make([]impl.Count, size)
	for i := range b {
		b[i] = count(1, int64(2*i))
	}
	return b
}

func rightBags() []struct {
	bag  []impl.Count
	text string
} {
	return []struct {
		bag  []impl.Count
		text string
	}{
		{nil, ""},
		{[]impl.Count{}, ""},
		{bag(count(1)), "-"},
		{bag(impl.Count{Row: nil, N: 2}), "-x2"},
		{bag(impl.Count{Row: []int64{}, N: -1}), "-x-1"},
		{bag(count(1, 0)), "0"},
		{bag(count(1, 5)), "5"},
		{bag(count(2, 5)), "5x2"},
		{bag(count(-1, 5)), "5x-1"},
		{bag(count(-1, -5)), "-5x-1"},
		{bag(count(10, 5)), "5x10"},
		{bag(count(1000000, 5)), "5x1000000"},
		{bag(count(-1000000, 5)), "5x-1000000"},
		{bag(count(1, 1, -2, 3)), "1 -2 3"},
		{bag(count(1, 1), count(1, 2)), "1;2"},
		{bag(count(1), count(3, -1), count(1, -1, 0), count(-2, 0), count(1, 0, -7)), "-;-1x3;-1 0;0x-2;0 -7"},
		{bag(count(1, 1, 2, 3, 4, 5, 6), count(7, 1, 2, 3, 4, 5, 7)), "1 2 3 4 5 6;1 2 3 4 5 7x7"},
		{bag(count(1, -1000000000), count(1, 1000000000)), "-1000000000;1000000000"},
	}
}

func wrongBags() map[string][]impl.Count {
	return map[string][]impl.Count{
		"N of 0":                     bag(count(0, 1)),
		"N of 0 of the empty row":    bag(count(0)),
		"N of 0 ahead":               bag(count(0, 1), count(1, 2)),
		"N of 0 between":             bag(count(1, 1), count(0, 2), count(1, 3)),
		"N of 0 at the end":          bag(count(1, 1), count(0, 2)),
		"N passed by one":            bag(count(1000001, 1)),
		"N passed by one below":      bag(count(-1000001, 1)),
		"N passed by one at the end": bag(count(1, 1), count(1000001, 2)),
		"greatest N":                 bag(count(math.MaxInt64, 1)),
		"least N":                    bag(count(math.MinInt64, 1)),
		"same row twice":             bag(count(1, 1), count(1, 1)),
		"empty row twice":            bag(count(1), count(2)),
		"falling":                    bag(count(1, 2), count(1, 1)),
		"falling at the end":         bag(count(1, 1), count(1, 3), count(1, 2)),
		"longer one ahead":           bag(count(1, 1, 0), count(1, 1)),
		"empty row behind":           bag(count(1, 1), count(1)),
		"number too large":           bag(count(1, 1000000001)),
		"number too small":           bag(count(1, -1000000001)),
		"wrong row at the end":       bag(count(1, 1), count(1, 2, 1000000001)),
		"row too wide":               bag(count(1, 1, 2, 3, 4, 5, 6, 7)),
		"too many":                   bagOfSize(301),
		"far too many":               bagOfSize(5000),
	}
}

func TestBagLimits(t *testing.T) {
	if impl.MaxBag != 300 || impl.MaxTimes != 1000000 {
		t.Fatal(impl.MaxBag, impl.MaxTimes)
	}
	if !impl.BagOk(bagOfSize(299)) || !impl.BagOk(bagOfSize(300)) || impl.BagOk(bagOfSize(301)) {
		t.Fatal("MaxBag is not the limit")
	}
	if impl.ShowBag(bagOfSize(300)) == "" || impl.ShowBag(bagOfSize(301)) != "" {
		t.Fatal("ShowBag does not keep to MaxBag")
	}
}

func TestRightBagsAreOkAndShown(t *testing.T) {
	for _, c := range rightBags() {
		if !impl.BagOk(c.bag) {
			t.Errorf("BagOk(%v) is false", c.bag)
		}
		if got := impl.ShowBag(c.bag); got != c.text {
			t.Errorf("ShowBag(%v) = %q, want %q", c.bag, got, c.text)
		}
	}
}

func TestWrongBagsAreRefused(t *testing.T) {
	for name, b := range wrongBags() {
		if impl.BagOk(b) {
			t.Errorf("%s: BagOk is true", name)
		}
		if got := impl.ShowBag(b); got != "" {
			t.Errorf("%s: ShowBag = %q", name, got)
		}
	}
}

func TestTimesIn(t *testing.T) {
	b := bag(count(4), count(-3, 1), count(1, 1, 0), count(1000000, 2), count(-1000000, 2, 5))
	cases := []struct {
		bag  []impl.Count
		row  []int64
		want int64
	}{
		{b, nil, 4},
		{b, []int64{}, 4},
		{b, []int64{1}, -3},
		{b, []int64{1, 0}, 1},
		{b, []int64{2}, 1000000},
		{b, []int64{2, 5}, -1000000},
		{b, []int64{0}, 0},
		{b, []int64{1, 1}, 0},
		{b, []int64{1, 0, 0}, 0},
		{b, []int64{3}, 0},
		{b, []int64{1000000001}, 0},
		{b, make([]int64, 7), 0},
		{b[1:], nil, 0},
		{nil, nil, 0},
		{nil, []int64{1}, 0},
		{b[:3:5], []int64{2}, 0},
		// Nothing asks that it be a bag: a row is there wherever it stands.
		{bag(count(5, 2), count(3, 1)), []int64{1}, 3},
		{bag(count(5, 2), count(3, 1)), []int64{2}, 5},
		{bag(count(0, 1)), []int64{1}, 0},
		{bag(count(math.MinInt64, 1)), []int64{1}, math.MinInt64},
		{bag(count(6, 1000000001)), []int64{1000000001}, 6},
		{bag(count(6, 1, 2, 3, 4, 5, 6, 7)), []int64{1, 2, 3, 4, 5, 6, 7}, 6},
		{bag(count(2, 1), count(3, 1)), []int64{1}, 2},
	}
	for _, c := range cases {
		if got := impl.TimesIn(c.bag, c.row); got != c.want {
			t.Errorf("TimesIn(%v, %v) = %d, want %d", c.bag, c.row, got, c.want)
		}
	}
}

type withCase struct {
	name string
	bag  []impl.Count
	row  []int64
	n    int64
	want []impl.Count
}

func checkWith(t *testing.T, cases []withCase) {
	t.Helper()
	for _, c := range cases {
		if got := impl.With(c.bag, c.row, c.n); !sameBag(got, c.want) {
			t.Errorf("%s: With(%v, %v, %d) = %v, want %v", c.name, c.bag, c.row, c.n, got, c.want)
		}
	}
}

func TestWithOfBags(t *testing.T) {
	b := bag(count(1, 1), count(2, 3), count(-1, 3, 0))
	checkWith(t, []withCase{
		{"into none", nil, []int64{1}, 1, bag(count(1, 1))},
		{"into none, the empty row", nil, nil, -2, bag(count(-2))},
		{"into none, 0", nil, []int64{1}, 0, nil},
		{"at the front", b, []int64{0}, 5, bag(count(5, 0), count(1, 1), count(2, 3), count(-1, 3, 0))},
		{"the empty row at the front", b, nil, 5, bag(count(5), count(1, 1), count(2, 3), count(-1, 3, 0))},
		{"between", b, []int64{1, 0}, -5, bag(count(1, 1), count(-5, 1, 0), count(2, 3), count(-1, 3, 0))},
		{"between, too", b, []int64{3, -1}, 1, bag(count(1, 1), count(2, 3), count(1, 3, -1), count(-1, 3, 0))},
		{"at the end", b, []int64{4}, 1, bag(count(1, 1), count(2, 3), count(-1, 3, 0), count(1, 4))},
		{"0 of one that is not there", b, []int64{2}, 0, b},
		{"0 of one that is there", b, []int64{3}, 0, b},
		{"more", b, []int64{3}, 7, bag(count(1, 1), count(9, 3), count(-1, 3, 0))},
		{"fewer", b, []int64{3}, -1, bag(count(1, 1), count(1, 3), count(-1, 3, 0))},
		{"below 0", b, []int64{3}, -3, bag(count(1, 1), count(-1, 3), count(-1, 3, 0))},
		{"to 0 at the front", b, []int64{1}, -1, bag(count(2, 3), count(-1, 3, 0))},
		{"to 0 between", b, []int64{3}, -2, bag(count(1, 1), count(-1, 3, 0))},
		{"to 0 at the end", b, []int64{3, 0}, 1, bag(count(1, 1), count(2, 3))},
		{"the only one to 0", b[:1], []int64{1}, -1, nil},
		{"most n", b, []int64{0}, 1000000, bag(count(1000000, 0), count(1, 1), count(2, 3), count(-1, 3, 0))},
		{"least n", b, []int64{0}, -1000000, bag(count(-1000000, 0), count(1, 1), count(2, 3), count(-1, 3, 0))},
		{"one n too many", b, []int64{0}, 1000001, b},
		{"one n too few", b, []int64{0}, -1000001, b},
		{"one n too many of one that is there", b, []int64{1}, 1000001, b},
		{"greatest n", b, []int64{1}, math.MaxInt64, b},
		{"least n of all", b, []int64{1}, math.MinInt64, b},
		{"n out of range into none", nil, []int64{1}, 1000001, nil},
		{"most N and least n", bag(count(1000000, 1)), []int64{1}, -1000000, nil},
	})
}

// Nothing asks that what comes out be a bag, or that what is given be one.
func TestWithOfWhatIsNoBag(t *testing.T) {
	checkWith(t, []withCase{
		{"N beyond its limit", bag(count(1000000, 1)), []int64{1}, 1, bag(count(1000001, 1))},
		{"N below its limit", bag(count(-1000000, 1)), []int64{1}, -1000000, bag(count(-2000000, 1))},
		{"N back from beyond", bag(count(1000001, 1)), []int64{1}, -1, bag(count(1000000, 1))},
		{"row too wide", bag(count(1, 2)), []int64{1, 2, 3, 4, 5, 6, 7}, 1, bag(count(1, 1, 2, 3, 4, 5, 6, 7), count(1, 2))},
		{"number too large", bag(count(1, 2)), []int64{1000000001}, 1, bag(count(1, 2), count(1, 1000000001))},
		{"ahead of the first that is not less", bag(count(1, 5), count(1, 1)), []int64{3}, 4, bag(count(4, 3), count(1, 5), count(1, 1))},
		{"not as far as its like", bag(count(1, 5), count(1, 3)), []int64{3}, 4, bag(count(4, 3), count(1, 5), count(1, 3))},
		{"behind those that are less", bag(count(1, 2), count(1, 1), count(1, 4), count(1, 0)), []int64{3}, 1, bag(count(1, 2), count(1, 1), count(1, 3), count(1, 4), count(1, 0))},
		{"its like where it goes", bag(count(1, 2), count(1, 1), count(1, 3), count(1, 0)), []int64{3}, 1, bag(count(1, 2), count(1, 1), count(2, 3), count(1, 0))},
		{"the first of two", bag(count(2, 1), count(3, 1)), []int64{1}, 1, bag(count(3, 1), count(3, 1))},
		{"the first of two to 0", bag(count(2, 1), count(3, 1)), []int64{1}, -2, bag(count(3, 1))},
		{"one of N 0 elsewhere stays", bag(count(0, 1), count(2, 2), count(0, 3)), []int64{2}, -2, bag(count(0, 1), count(0, 3))},
		{"N 0 and 0 more", bag(count(0, 1), count(0, 2)), []int64{1}, 0, bag(count(0, 2))},
		{"N 0 and some more", bag(count(0, 1)), []int64{1}, 3, bag(count(3, 1))},
		{"n out of range, all stays", bag(count(0, 3), count(1, 1), count(1, 1)), []int64{1}, -1000001, bag(count(0, 3), count(1, 1), count(1, 1))},
	})
}

func TestWithBeyondMaxBag(t *testing.T) {
	full := bagOfSize(300)
	more := impl.With(full, []int64{7}, 1)
	if len(more) != 301 || impl.TimesIn(more, []int64{7}) != 1 || impl.BagOk(more) {
		t.Fatal("one more than MaxBag", len(more))
	}
	if back := impl.With(more, []int64{7}, -1); !sameBag(back, full) || !impl.BagOk(back) {
		t.Fatal("and back", len(back))
	}
	if same := impl.With(full, []int64{8}, 1); len(same) != 300 || !impl.BagOk(same) {
		t.Fatal("a full bag takes one of its own once more", len(same))
	}
}

// smallBags are all bags of these rows with N from -1 to 2.
func smallBags(rows [][]int64) [][]impl.Count {
	bags := [][]impl.Count{nil}
	for _, row := range rows {
		var more [][]impl.Count
		for _, b := range bags {
			for n := int64(-1); n <= 2; n++ {
				next := cloneBag(b)
				if n != 0 {
					next = append(next, count(n, row...))
				}
				more = append(more, next)
			}
		}
		bags = more
	}
	return bags
}

// Promise 2: With tells how often; nothing else changes.
func TestWithTellsHowOften(t *testing.T) {
	rows := [][]int64{{}, {-1}, {0}, {0, 5}, {1}}
	for _, b := range smallBags(rows) {
		if !impl.BagOk(b) {
			t.Fatalf("%v is no bag", b)
		}
		for i, row := range rows {
			for n := int64(-3); n <= 3; n++ {
				got := impl.With(b, row, n)
				if !impl.BagOk(got) {
					t.Fatalf("With(%v, %v, %d) = %v is no bag", b, row, n, got)
				}
				size := 0
				for j, other := range rows {
					want := impl.TimesIn(b, other)
					if j == i {
						want += n
					}
					if want != 0 {
						size++
					}
					if times := impl.TimesIn(got, other); times != want {
						t.Fatalf("With(%v, %v, %d) has %v %d times, want %d", b, row, n, other, times, want)
					}
				}
				if len(got) != size {
					t.Fatalf("With(%v, %v, %d) = %v has more than its rows", b, row, n, got)
				}
				if back := impl.With(got, row, -n); !sameBag(back, b) {
					t.Fatalf("With(%v, %v, %d) and back is %v", b, row, n, back)
				}
			}
		}
	}
}

func TestBagOf(t *testing.T) {
	cases := []struct {
		rows [][]int64
		want []impl.Count
	}{
		{nil, nil},
		{[][]int64{}, nil},
		{[][]int64{nil}, bag(count(1))},
		{[][]int64{{}, nil, {}}, bag(count(3))},
		{[][]int64{{7}}, bag(count(1, 7))},
		{[][]int64{{2}, {1}, {2}}, bag(count(1, 1), count(2, 2))},
		{[][]int64{{3}, {2}, {1}, {0}}, bag(count(1, 0), count(1, 1), count(1, 2), count(1, 3))},
		{[][]int64{{0}, {1}, {2}, {3}}, bag(count(1, 0), count(1, 1), count(1, 2), count(1, 3))},
		{[][]int64{{1, 0}, {1}, nil, {1, -1}, {1}}, bag(count(1), count(2, 1), count(1, 1, -1), count(1, 1, 0))},
		// Nothing asks that the rows be right.
		{[][]int64{{1, 2, 3, 4, 5, 6, 7}, {1000000001}, {1}}, bag(count(1, 1), count(1, 1, 2, 3, 4, 5, 6, 7), count(1, 1000000001))},
	}
	for _, c := range cases {
		if got := impl.BagOf(c.rows); !sameBag(got, c.want) {
			t.Errorf("BagOf(%v) = %v, want %v", c.rows, got, c.want)
		}
	}
}

func TestBagOfIsWithEachOnce(t *testing.T) {
	for size := range 40 {
		for step := 1; step < 12; step++ {
			var rows [][]int64
			var want []impl.Count
			for i := range size {
				at := int64(i * step * (i + step) % 17)
				row := []int64{at / 3, at % 3, -at}[:1+at%3]
				rows = append(rows, row)
				want = impl.With(want, row, 1)
			}
			if got := impl.BagOf(rows); !sameBag(got, want) || !impl.BagOk(got) {
				t.Fatalf("BagOf(%v) = %v, want %v", rows, got, want)
			}
		}
	}
}

func TestBagOfMoreThanMaxBag(t *testing.T) {
	var rows [][]int64
	for i := range int64(301) {
		rows = append(rows, []int64{300 - i})
	}
	if got := impl.BagOf(rows[:300]); len(got) != 300 || !impl.BagOk(got) {
		t.Fatal("MaxBag rows", len(got))
	}
	if got := impl.BagOf(rows); len(got) != 301 || impl.BagOk(got) || impl.TimesIn(got, []int64{0}) != 1 {
		t.Fatal("one more than MaxBag", len(got))
	}
	if got := impl.BagOf(slices.Repeat(rows[:1], 5000)); !sameBag(got, bag(count(5000, 300))) || !impl.BagOk(got) {
		t.Fatal("one row often", len(got))
	}
	if got := impl.BagOf(make([][]int64, 1000001)); !sameBag(got, bag(count(1000001))) || impl.BagOk(got) {
		t.Fatal("one row more often than MaxTimes", len(got))
	}
}

// roomyBag is the first size of these counts, with spare room behind it and behind each row, and all its memory as a text.
func roomyBag(size int, counts ...impl.Count) ([]impl.Count, func() string) {
	whole := make([]impl.Count, 0, len(counts)+2)
	for _, c := range counts {
		row := append(make([]int64, 0, len(c.Row)+3), c.Row...)
		whole = append(whole, impl.Count{Row: row, N: c.N})
		copy(row[len(row):cap(row)], []int64{71, 72, 73})
	}
	return whole[:size], func() string {
		text := ""
		for _, c := range whole[:cap(whole)] {
			text += fmt.Sprint(len(c.Row), c.Row[:cap(c.Row)], c.N, ";")
		}
		return text
	}
}

// overwriteBag writes into a bag, its rows, and the spare room behind all of them.
func overwriteBag(b []impl.Count) {
	b = b[:cap(b)]
	for i := range b {
		overwrite(b[i].Row)
		b[i] = impl.Count{Row: []int64{-98}, N: -97}
	}
}

// Promise 21, as far as bags go.
func TestBagsStayAndAnswersAreNew(t *testing.T) {
	rows := [][]int64{{}, {0}, {1}, {2}, {2, 3}, {4}, {5}}
	for _, row := range rows {
		for _, n := range []int64{-1, 0, 1, 1000001} {
			b, memory := roomyBag(3, count(1, 1), count(1, 2), count(1, 4), count(1, 5), count(1, 6))
			room := append(slices.Clone(row), 61, 62)
			was, wasRoom := memory(), slices.Clone(room)
			one := impl.With(b, room[:len(row)], n)
			want := cloneBag(one)
			other := impl.With(b, room[:len(row)], n)
			if memory() != was || !slices.Equal(room, wasRoom) {
				t.Fatalf("With %v, %d writes into an argument", row, n)
			}
			overwriteBag(one)
			if memory() != was || !slices.Equal(room, wasRoom) {
				t.Fatalf("With %v, %d shares memory with an argument", row, n)
			}
			if !sameBag(other, want) {
				t.Fatalf("two answers of With %v, %d share memory", row, n)
			}
			checkRowsApart(t, other)
		}
	}
}

func TestAskingBagsWritesNothing(t *testing.T) {
	b, memory := roomyBag(3, count(1, 1), count(-2, 2), count(3, 4), count(1, 5))
	row := []int64{2, 61, 62}
	was := memory()
	impl.BagOk(b)
	impl.ShowBag(b)
	impl.TimesIn(b, row[:1])
	if memory() != was || !slices.Equal(row, []int64{2, 61, 62}) {
		t.Fatal("an argument was written into")
	}
}

func TestBagOfLeavesItsRows(t *testing.T) {
	shared := []int64{3, 1, 2, 77}
	rows := [][]int64{shared[:1], shared[1:2], shared[:2], shared[:1], nil, {9}}
	was := fmt.Sprint(rows, shared)
	one := impl.BagOf(rows[:5])
	other := impl.BagOf(rows[:5])
	if fmt.Sprint(rows, shared) != was {
		t.Fatal("BagOf writes into an argument", rows, shared)
	}
	overwriteBag(one)
	if fmt.Sprint(rows, shared) != was {
		t.Fatal("BagOf shares memory with an argument", rows, shared)
	}
	if !sameBag(other, bag(count(1), count(1, 1), count(2, 3), count(1, 3, 1))) {
		t.Fatal("two answers of BagOf share memory", other)
	}
	checkRowsApart(t, other)
}

// checkRowsApart sees to it that no two rows of one answer share memory, nor the spare room behind them.
func checkRowsApart(t *testing.T, b []impl.Count) {
	t.Helper()
	for i := range b {
		want := cloneBag(b)
		overwrite(b[i].Row)
		copy(b[i].Row, want[i].Row)
		if !sameBag(b, want) {
			t.Fatalf("rows of one answer share memory: %v, want %v", b, want)
		}
	}
}

func TestBagsOfBrokenArgumentsDoNotPanic(t *testing.T) {
	rows := append(wrongRows(), nil, []int64{}, []int64{1})
	times := []int64{math.MinInt64, -1000001, -1000000, -1, 0, 1, 1000000, 1000001, math.MaxInt64}
	for _, b := range wrongBags() {
		for _, row := range rows {
			impl.TimesIn(b, row)
			for _, n := range times {
				impl.With(b, row, n)
			}
		}
	}
	impl.BagOf(rows)
}
