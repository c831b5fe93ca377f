package tests

import (
	"math"
	"slices"
	"testing"

	"loop.example/g00604/impl"
)

// signedPair is two bags, and what the functions of two bags make of them.
type signedPair struct {
	name   string
	a, b   []impl.Count
	plus   []impl.Count
	change []impl.Count
}

func signedPairs() []signedPair {
	three := bag(count(1, 1), count(2, 3), count(-1, 3, 0))
	return []signedPair{
		{"none and none", nil, []impl.Count{}, nil, nil},
		{"none and some", nil, three, three, three},
		{"some and none", three, nil, three, bag(count(-1, 1), count(-2, 3), count(1, 3, 0))},
		{"one and itself", three, three, bag(count(2, 1), count(4, 3), count(-2, 3, 0)), nil},
		{
			"all of one ahead", bag(count(1, 1), count(2, 2)), bag(count(3, 3), count(4, 4)),
			bag(count(1, 1), count(2, 2), count(3, 3), count(4, 4)),
			bag(count(-1, 1), count(-2, 2), count(3, 3), count(4, 4)),
		},
		{
			"all of one behind", bag(count(3, 3), count(4, 4)), bag(count(1, 1), count(2, 2)),
			bag(count(1, 1), count(2, 2), count(3, 3), count(4, 4)),
			bag(count(1, 1), count(2, 2), count(-3, 3), count(-4, 4)),
		},
		{
			"by turns", bag(count(1, 1), count(1, 3), count(1, 5)), bag(count(1, 2), count(1, 4)),
			bag(count(1, 1), count(1, 2), count(1, 3), count(1, 4), count(1, 5)),
			bag(count(-1, 1), count(1, 2), count(-1, 3), count(1, 4), count(-1, 5)),
		},
		{
			"one in both", bag(count(1, 1), count(2, 2)), bag(count(5, 2), count(1, 3)),
			bag(count(1, 1), count(7, 2), count(1, 3)),
			bag(count(-1, 1), count(3, 2), count(1, 3)),
		},
		{"to 0 together", bag(count(4, 2)), bag(count(-4, 2)), nil, bag(count(-8, 2))},
		{
			"to 0 at the front", bag(count(1, 1), count(1, 2)), bag(count(-1, 1), count(1, 2)),
			bag(count(2, 2)), bag(count(-2, 1)),
		},
		{
			"to 0 at the end", bag(count(1, 1), count(1, 2)), bag(count(1, 1), count(-1, 2)),
			bag(count(2, 1)), bag(count(-2, 2)),
		},
		{
			"to 0 between", bag(count(1, 1), count(3, 2), count(1, 3)), bag(count(-3, 2)),
			bag(count(1, 1), count(1, 3)), bag(count(-1, 1), count(-6, 2), count(-1, 3)),
		},
		{
			"below 0", bag(count(-1, 1), count(2, 2)), bag(count(-2, 1), count(-3, 2)),
			bag(count(-3, 1), count(-1, 2)), bag(count(-1, 1), count(-5, 2)),
		},
		{
			"the empty row", bag(count(1), count(1, 0)), bag(count(2), count(-1, 0, 0)),
			bag(count(3), count(1, 0), count(-1, 0, 0)), bag(count(1), count(-1, 0), count(-1, 0, 0)),
		},
		{
			"the empty row and one of 0", bag(count(1)), bag(count(1, 0)),
			bag(count(1), count(1, 0)), bag(count(-1), count(1, 0)),
		},
		{
			"rows that begin alike", bag(count(1, 1), count(1, 1, 0, 0)), bag(count(1, 1, 0), count(1, 1, 0, 1)),
			bag(count(1, 1), count(1, 1, 0), count(1, 1, 0, 0), count(1, 1, 0, 1)),
			bag(count(-1, 1), count(1, 1, 0), count(-1, 1, 0, 0), count(1, 1, 0, 1)),
		},
		{
			"widest rows", bag(count(1, 1, 2, 3, 4, 5, 6)), bag(count(2, 1, 2, 3, 4, 5, 6), count(1, 1, 2, 3, 4, 5, 7)),
			bag(count(3, 1, 2, 3, 4, 5, 6), count(1, 1, 2, 3, 4, 5, 7)),
			bag(count(1, 1, 2, 3, 4, 5, 6), count(1, 1, 2, 3, 4, 5, 7)),
		},
		{
			"outermost numbers", bag(count(1, -1000000000)), bag(count(1, 1000000000)),
			bag(count(1, -1000000000), count(1, 1000000000)),
			bag(count(-1, -1000000000), count(1, 1000000000)),
		},
		// Nothing asks that what comes out keep to MaxTimes.
		{"most N and one more", bag(count(1000000, 1)), bag(count(1, 1)), bag(count(1000001, 1)), bag(count(-999999, 1))},
		{"most N twice", bag(count(1000000, 1)), bag(count(1000000, 1)), bag(count(2000000, 1)), nil},
		{"least N twice", bag(count(-1000000, 1)), bag(count(-1000000, 1)), bag(count(-2000000, 1)), nil},
		{"from least to most N", bag(count(-1000000, 1)), bag(count(1000000, 1)), nil, bag(count(2000000, 1))},
		{"from most to least N", bag(count(1000000, 1)), bag(count(-1000000, 1)), nil, bag(count(-2000000, 1))},
	}
}

func TestPlusAndChange(t *testing.T) {
	for _, c := range signedPairs() {
		if got := impl.Plus(c.a, c.b); !sameBag(got, c.plus) {
			t.Errorf("%s: Plus(%v, %v) = %v, want %v", c.name, c.a, c.b, got, c.plus)
		}
		if got := impl.Plus(c.b, c.a); !sameBag(got, c.plus) {
			t.Errorf("%s: Plus(%v, %v) = %v, want %v", c.name, c.b, c.a, got, c.plus)
		}
		if got := impl.Change(c.a, c.b); !sameBag(got, c.change) {
			t.Errorf("%s: Change(%v, %v) = %v, want %v", c.name, c.a, c.b, got, c.change)
		}
	}
}

// shiftedBag is as bagOfSize, but has no row with it in common.
func shiftedBag(size int) []impl.Count {
	b := make([]impl.Count, size)
	for i := range b {
		b[i] = count(1, int64(2*i+1))
	}
	return b
}

func TestPlusAndChangeBeyondMaxBag(t *testing.T) {
	full, more := bagOfSize(300), shiftedBag(300)
	for _, size := range []int{0, 1, 299, 300} {
		sum, change := impl.Plus(full, more[:size]), impl.Change(full, more[:size])
		if len(sum) != 300+size || len(change) != 300+size || impl.BagOk(sum) != (size == 0) {
			t.Fatalf("a full bag and %d more are %d, and %d", size, len(sum), len(change))
		}
		for i := range int64(300) {
			if impl.TimesIn(sum, []int64{2 * i}) != 1 || impl.TimesIn(change, []int64{2 * i}) != -1 {
				t.Fatalf("%d more: %d is not there as often", size, 2*i)
			}
		}
		for i := range int64(size) {
			if impl.TimesIn(sum, []int64{2*i + 1}) != 1 || impl.TimesIn(change, []int64{2*i + 1}) != 1 {
				t.Fatalf("%d more: %d is not there as often", size, 2*i+1)
			}
		}
		if !sameBag(sum, impl.Plus(more[:size], full)) {
			t.Fatalf("a full bag and %d more are not the same the other way", size)
		}
		for _, b := range [][]impl.Count{sum, change} {
			if !slices.IsSortedFunc(b, func(x, y impl.Count) int { return slices.Compare(x.Row, y.Row) }) {
				t.Fatalf("a full bag and %d more do not rise", size)
			}
		}
	}
	if sum := impl.Plus(full, full); len(sum) != 300 || !impl.BagOk(sum) || impl.Least(sum) != 2 {
		t.Fatal("a full bag and itself", len(sum))
	}
	if sum := impl.Plus(full, impl.Minus(full)); len(sum) != 0 {
		t.Fatal("a full bag and it turned round", len(sum))
	}
}

func TestMinus(t *testing.T) {
	cases := []struct{ bag, want []impl.Count }{
		{nil, nil},
		{[]impl.Count{}, nil},
		{bag(count(1)), bag(count(-1))},
		{bag(count(-3, 5)), bag(count(3, 5))},
		{bag(count(1, 1), count(-2, 1, 0), count(3, 2)), bag(count(-1, 1), count(2, 1, 0), count(-3, 2))},
		{bag(count(1000000, 1), count(-1000000, 2)), bag(count(-1000000, 1), count(1000000, 2))},
		{bag(count(7, -5, 6)), bag(count(-7, -5, 6))},
	}
	for _, c := range cases {
		if got := impl.Minus(c.bag); !sameBag(got, c.want) {
			t.Errorf("Minus(%v) = %v, want %v", c.bag, got, c.want)
		}
	}
	if got := impl.Minus(bagOfSize(300)); len(got) != 300 || impl.Least(got) != -1 {
		t.Error("Minus of a full bag", len(got))
	}
}

func TestIsSet(t *testing.T) {
	cases := []struct {
		bag  []impl.Count
		want bool
	}{
		{nil, true},
		{[]impl.Count{}, true},
		{bag(count(1)), true},
		{bag(count(1), count(1, 1), count(1, 1, 0)), true},
		{bagOfSize(300), true},
		{bagOfSize(301), false},
		{bag(count(2, 1)), false},
		{bag(count(-1, 1)), false},
		{bag(count(2, 1), count(1, 2)), false},
		{bag(count(1, 1), count(1, 2), count(2, 3)), false},
		{bag(count(1, 1), count(-1, 2), count(1, 3)), false},
		{bag(count(1000000, 1)), false},
		// Each N is 1, but these are no bags.
		{bag(count(1, 2), count(1, 1)), false},
		{bag(count(1, 1), count(1, 1)), false},
		{bag(count(1, 1000000001)), false},
		{bag(count(1, 1, 2, 3, 4, 5, 6, 7)), false},
	}
	for _, c := range cases {
		if got := impl.IsSet(c.bag); got != c.want {
			t.Errorf("IsSet(%v) = %v", c.bag, got)
		}
	}
}

func TestLeast(t *testing.T) {
	cases := []struct {
		bag  []impl.Count
		want int64
	}{
		{nil, 0},
		{[]impl.Count{}, 0},
		{bag(count(1)), 1},
		{bag(count(5, 1)), 5},
		{bag(count(-5, 1)), -5},
		{bag(count(3, 1), count(2, 2), count(4, 3)), 2},
		{bag(count(2, 1), count(3, 2), count(4, 3)), 2},
		{bag(count(4, 1), count(3, 2), count(2, 3)), 2},
		{bag(count(4, 1), count(-3, 2), count(-2, 3)), -3},
		{bag(count(1000000, 1)), 1000000},
		{bag(count(1000000, 1), count(-1000000, 2)), -1000000},
		{bagOfSize(300), 1},
		// These are no bags.
		{bagOfSize(301), 0},
		{bag(count(7, 2), count(8, 1)), 0},
		{bag(count(-7, 1), count(-8, 1)), 0},
		{bag(count(-1000001, 1)), 0},
		{bag(count(math.MinInt64, 1)), 0},
	}
	for _, c := range cases {
		if got := impl.Least(c.bag); got != c.want {
			t.Errorf("Least(%v) = %d, want %d", c.bag, got, c.want)
		}
	}
}

func TestSignedOfWhatIsNoBag(t *testing.T) {
	right := bag(count(1, -7), count(2, 1), count(-3, 9))
	for name, wrong := range wrongBags() {
		pairs := [][2][]impl.Count{{wrong, right}, {right, wrong}, {wrong, nil}, {nil, wrong}, {wrong, wrong}}
		for _, p := range pairs {
			if got := impl.Plus(p[0], p[1]); len(got) != 0 {
				t.Errorf("%s: Plus(%.40v, %.40v) = %.40v", name, p[0], p[1], got)
			}
			if got := impl.Change(p[0], p[1]); len(got) != 0 {
				t.Errorf("%s: Change(%.40v, %.40v) = %.40v", name, p[0], p[1], got)
			}
		}
		if got := impl.Minus(wrong); len(got) != 0 {
			t.Errorf("%s: Minus = %.40v", name, got)
		}
		if impl.IsSet(wrong) || impl.Least(wrong) != 0 {
			t.Errorf("%s: IsSet = %v, Least = %d", name, impl.IsSet(wrong), impl.Least(wrong))
		}
		for other, wrongToo := range wrongBags() {
			if len(impl.Plus(wrong, wrongToo)) != 0 || len(impl.Change(wrong, wrongToo)) != 0 {
				t.Errorf("%s and %s come to something", name, other)
			}
		}
	}
}

// checkTimes sees to it that got is a bag and has each of these rows as often as want tells, and no other row.
func checkTimes(t *testing.T, what string, got []impl.Count, rows [][]int64, want func(row []int64) int64) {
	t.Helper()
	size := 0
	for _, row := range rows {
		if want(row) != 0 {
			size++
		}
		if times := impl.TimesIn(got, row); times != want(row) {
			t.Fatalf("%s: %v has %v %d times, want %d", what, got, row, times, want(row))
		}
	}
	if len(got) != size || !impl.BagOk(got) {
		t.Fatalf("%s: %v", what, got)
	}
}

// Promise 3: Plus goes both ways, and Minus turns it round; a Change comes there.
func TestPlusMinusChangeOfSmallBags(t *testing.T) {
	rows := [][]int64{{}, {-1}, {0}, {0, 5}}
	bags := smallBags(rows)
	for _, a := range bags {
		minus := impl.Minus(a)
		checkTimes(t, "Minus", minus, rows, func(row []int64) int64 { return -impl.TimesIn(a, row) })
		if !sameBag(impl.Minus(minus), a) || len(impl.Plus(a, minus)) != 0 || len(impl.Change(a, a)) != 0 {
			t.Fatalf("Minus does not turn %v round", a)
		}
		for _, b := range bags {
			plus, change := impl.Plus(a, b), impl.Change(a, b)
			checkTimes(t, "Plus", plus, rows, func(row []int64) int64 { return impl.TimesIn(a, row) + impl.TimesIn(b, row) })
			checkTimes(t, "Change", change, rows, func(row []int64) int64 { return impl.TimesIn(b, row) - impl.TimesIn(a, row) })
			if !sameBag(plus, impl.Plus(b, a)) {
				t.Fatalf("Plus of %v and %v is not the same the other way", a, b)
			}
			if !sameBag(impl.Plus(plus, minus), b) {
				t.Fatalf("%v Plus %v does not come back", a, b)
			}
			if !sameBag(impl.Plus(a, change), b) || !sameBag(impl.Plus(change, a), b) {
				t.Fatalf("the Change from %v to %v does not come there", a, b)
			}
			if !sameBag(impl.Minus(change), impl.Change(b, a)) {
				t.Fatalf("the Change from %v to %v is not that back, turned round", a, b)
			}
		}
	}
}

func TestPlusIsWithEach(t *testing.T) {
	for step := int64(1); step < 60; step++ {
		var a, b []impl.Count
		for i := range step {
			a = impl.With(a, []int64{i * step % 23, i % 2}[:1+i%2], i%5-2)
			b = impl.With(b, []int64{i * i % 23, i % 3}[:1+i%2], i%7-3)
		}
		want := cloneBag(a)
		for _, c := range b {
			want = impl.With(want, c.Row, c.N)
		}
		if got := impl.Plus(a, b); !sameBag(got, want) {
			t.Fatalf("Plus(%v, %v) = %v, want %v", a, b, got, want)
		}
	}
}

// Promise 21, as far as changes go.
func TestChangesStayAndAnswersAreNew(t *testing.T) {
	answers := map[string]func(a, b []impl.Count) []impl.Count{
		"Plus":   impl.Plus,
		"Change": impl.Change,
		"Minus":  func(a, _ []impl.Count) []impl.Count { return impl.Minus(a) },
	}
	others := [][]impl.Count{
		nil,
		bag(count(1, 0)),
		bag(count(-1, 1)),
		bag(count(1, 1), count(2, 2), count(3, 4)),
		bag(count(-1, 1), count(-1, 2), count(-1, 4)),
		bag(count(1, 0), count(1, 1, 0), count(1, 3), count(1, 9)),
	}
	for name, answer := range answers {
		for _, counts := range others {
			a, aMemory := roomyBag(3, count(1, 1), count(1, 2), count(1, 4), count(1, 5), count(1, 6))
			b, bMemory := roomyBag(len(counts), append(cloneBag(counts), count(1, 20), count(1, 21))...)
			memory := func() string { return aMemory() + "|" + bMemory() }
			checkAnswersNew(t, name+" ahead", memory, func() []impl.Count { return answer(a, b) })
			checkAnswersNew(t, name+" behind", memory, func() []impl.Count { return answer(b, a) })
			checkAnswersNew(t, name+" of one and itself", memory, func() []impl.Count { return answer(a, a) })
		}
	}
}

// checkAnswersNew sees to it that what is answered shares nothing with the arguments, of which memory tells, nor with another answer, nor within itself.
func checkAnswersNew(t *testing.T, name string, memory func() string, answer func() []impl.Count) {
	t.Helper()
	was := memory()
	one := answer()
	want := cloneBag(one)
	other := answer()
	if memory() != was {
		t.Fatalf("%s writes into an argument", name)
	}
	overwriteBag(one)
	if memory() != was {
		t.Fatalf("%s shares memory with an argument", name)
	}
	if !sameBag(other, want) {
		t.Fatalf("two answers of %s share memory", name)
	}
	checkRowsApart(t, other)
}

func TestChangesOfRowsInOneMemory(t *testing.T) {
	cells := []int64{1, 2, 3, 4}
	b := []impl.Count{{Row: cells[:1], N: 1}, {Row: cells[:2], N: 2}, {Row: cells[1:2], N: 3}}
	was := slices.Clone(cells)
	for _, got := range [][]impl.Count{impl.Plus(b, b), impl.Plus(b, nil), impl.Minus(b), impl.Change(nil, b), impl.Change(b, nil)} {
		checkRowsApart(t, got)
		overwriteBag(got)
		if !slices.Equal(cells, was) {
			t.Fatal("an answer shares memory with an argument", cells)
		}
	}
}

func TestAskingChangesWritesNothing(t *testing.T) {
	b, memory := roomyBag(3, count(3, 1), count(-2, 2), count(1, 4), count(1, 5))
	was := memory()
	impl.IsSet(b)
	impl.Least(b)
	if memory() != was {
		t.Fatal("an argument was written into")
	}
}

// What is refused is not written into either.
func TestWhatIsNoBagStays(t *testing.T) {
	right, rightMemory := roomyBag(2, count(1, 1), count(1, 2), count(1, 3))
	wrong, wrongMemory := roomyBag(3, count(1, 2), count(0, 1), count(1, 1), count(1, 9))
	was := rightMemory() + wrongMemory()
	answers := [][]impl.Count{
		impl.Plus(right, wrong), impl.Plus(wrong, right), impl.Change(right, wrong), impl.Change(wrong, right), impl.Minus(wrong),
	}
	impl.IsSet(wrong)
	impl.Least(wrong)
	for _, answer := range answers {
		overwriteBag(answer)
	}
	if rightMemory()+wrongMemory() != was {
		t.Fatal("an argument was written into")
	}
}
