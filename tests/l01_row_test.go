package tests

import (
	"math"
	"slices"
	"strings"
	"testing"

	"loop.example/g00604/impl"
)

func rightRows() []struct {
	row  []int64
	text string
} {
	return []struct {
		row  []int64
		text string
	}{
		{nil, "-"},
		{[]int64{}, "-"},
		{[]int64{0}, "0"},
		{[]int64{7}, "7"},
		{[]int64{-1}, "-1"},
		{[]int64{10, 0, -20}, "10 0 -20"},
		{[]int64{123456789}, "123456789"},
		{[]int64{999999999, -999999999}, "999999999 -999999999"},
		{[]int64{1000000000}, "1000000000"},
		{[]int64{-1000000000}, "-1000000000"},
		{[]int64{1, 2, 3, 4, 5, 6}, "1 2 3 4 5 6"},
		{
			slices.Repeat([]int64{-1000000000}, 6),
			"-1000000000 -1000000000 -1000000000 -1000000000 -1000000000 -1000000000",
		},
	}
}

func wrongRows() [][]int64 {
	return [][]int64{
		{1, 2, 3, 4, 5, 6, 7},
		make([]int64, 7),
		make([]int64, 1000),
		{1000000001},
		{-1000000001},
		{0, 0, 0, 0, 0, 1000000001},
		{-1000000001, 0},
		{math.MaxInt64},
		{math.MinInt64},
	}
}

func TestRowLimits(t *testing.T) {
	if impl.MaxWidth != 6 || impl.MaxCell != 1000000000 {
		t.Fatal(impl.MaxWidth, impl.MaxCell)
	}
}

func TestRightRowsAreOkShownAndReadBack(t *testing.T) {
	for _, c := range rightRows() {
		if !impl.RowOk(c.row) {
			t.Errorf("RowOk(%v) is false", c.row)
		}
		if got := impl.ShowRow(c.row); got != c.text {
			t.Errorf("ShowRow(%v) = %q, want %q", c.row, got, c.text)
		}
		got, is := impl.ReadRow(c.text)
		if !is || !slices.Equal(got, c.row) {
			t.Errorf("ReadRow(%q) = %v, %v, want %v", c.text, got, is, c.row)
		}
	}
}

func TestEveryWidthIsReadBack(t *testing.T) {
	numbers := []int64{-1000000000, -999999999, -10, -1, 0, 1, 9, 10, 100, 999999999, 1000000000}
	for width := range impl.MaxWidth + 1 {
		for start := range numbers {
			row := make([]int64, width)
			for i := range row {
				row[i] = numbers[(start+i*(start+1))%len(numbers)]
			}
			got, is := impl.ReadRow(impl.ShowRow(row))
			if !is || !slices.Equal(got, row) {
				t.Errorf("%v is read back as %v, %v", row, got, is)
			}
		}
	}
}

func TestWrongRowsAreRefused(t *testing.T) {
	for _, row := range wrongRows() {
		if impl.RowOk(row) {
			t.Errorf("RowOk(%v) is true", row)
		}
		if got := impl.ShowRow(row); got != "" {
			t.Errorf("ShowRow(%v) = %q", row, got)
		}
	}
}

func TestTextsOfNoRow(t *testing.T) {
	texts := []string{
		"", " ", "  ", "--", "- ", " -", "- -", "1 -", "- 1", "-1-", "--1",
		"00", "01", "-0", "-01", "+1", "+", "1 02", "0 -0",
		" 1", "1 ", "1  2", "1\t2", "1\n", "\n1", "1,2", "1;2", "1\x00",
		"a", "1 a", "1a", "0x1", "1_000", "1.0", "1e3", "\u0661", "\xff", "\u2212 1",
		"1000000001", "-1000000001", "0 1000000001", "9999999999", "10000000000",
		"9223372036854775807", "-9223372036854775808", "9223372036854775808",
		"18446744073709551617", "-18446744073709551615",
		"1 2 3 4 5 6 7", "1 2 3 4 5 6 ", "1 2 3 4 5 6 7 8", "1 2 3 4 5 6 -",
		strings.Repeat("1", 10000), strings.Repeat("1 ", 10000), strings.Repeat(" ", 10000),
		strings.Repeat("0", 10000) + "1",
	}
	for _, s := range texts {
		if row, is := impl.ReadRow(s); is || len(row) != 0 {
			t.Errorf("ReadRow(%.40q) = %v, %v", s, row, is)
		}
	}
}

// Whatever ReadRow takes, ShowRow must make again: all short texts of the bytes that matter.
func TestReadTakesNothingButWhatIsShown(t *testing.T) {
	taken := 0
	texts := []string{""}
	for range 6 {
		var longer []string
		for _, s := range texts {
			for _, b := range "01- +" {
				longer = append(longer, s+string(b))
			}
		}
		for _, s := range longer {
			row, is := impl.ReadRow(s)
			if is {
				taken++
			}
			if is && impl.ShowRow(row) != s || !is && len(row) != 0 {
				t.Fatalf("ReadRow(%q) = %v, %v", s, row, is)
			}
		}
		texts = longer
	}
	if want := shownTexts(6); taken != want {
		t.Fatalf("%d texts are taken, want %d", taken, want)
	}
}

// shownTexts counts the texts of at most that many bytes that ShowRow makes of rows written with 0, 1 and - alone.
func shownTexts(most int) int {
	numbers := []int{}
	for length := range most + 1 {
		// Without a -: 0, or a 1 ahead of 0s and 1s; with one: a 1 behind it.
		n := 0
		if length == 1 {
			n = 2
		} else if length > 1 {
			n = 1<<(length-1) + 1<<(length-2)
		}
		numbers = append(numbers, n)
	}
	ending := make([]int, most+1)
	total := 1 // the row of no number
	for length := 1; length <= most; length++ {
		ending[length] = numbers[length]
		for last := 1; last < length-1; last++ {
			ending[length] += ending[length-1-last] * numbers[last]
		}
		total += ending[length]
	}
	return total
}

func TestRowLess(t *testing.T) {
	// Each one is less than all behind it.
	rising := [][]int64{
		{},
		{math.MinInt64},
		{-1000000000},
		{-1000000000, -1000000000},
		{-2, 9},
		{-1},
		{-1, -1},
		{-1, 0},
		{0},
		{0, -5},
		{0, 0},
		{0, 0, 0},
		{0, 0, 1},
		{0, 1},
		{0, 9},
		{1},
		{1, -1, 5},
		{1, 2, 3, 4, 5, 6},
		{1, 2, 3, 4, 5, 7},
		{1, 2, 3, 4, 6},
		{2, 0, 0, 0, 0, 0, 0},
		{2, 0, 0, 0, 0, 0, 0, 0},
		{10},
		{1000000000},
		{1000000000, -1},
		{math.MaxInt64},
	}
	for i, a := range rising {
		for j, b := range rising {
			if got := impl.RowLess(a, b); got != (i < j) {
				t.Errorf("RowLess(%v, %v) = %v", a, b, got)
			}
		}
	}
	if impl.RowLess(nil, nil) || impl.RowLess(nil, []int64{}) || impl.RowLess([]int64{}, nil) {
		t.Error("nil and the empty row differ")
	}
}

func TestRowLessIsAnOrder(t *testing.T) {
	rows := [][]int64{nil}
	for i := 0; len(rows[i]) < 3; i++ {
		for n := int64(-1); n <= 1; n++ {
			rows = append(rows, append(slices.Clone(rows[i]), n))
		}
	}
	for _, a := range rows {
		for _, b := range rows {
			ab, ba := impl.RowLess(a, b), impl.RowLess(b, a)
			if ab && ba || ab == ba && !slices.Equal(a, b) {
				t.Fatalf("%v and %v: %v, %v", a, b, ab, ba)
			}
			for _, c := range rows {
				if ab && impl.RowLess(b, c) && !impl.RowLess(a, c) {
					t.Fatalf("%v, %v and %v do not rise", a, b, c)
				}
			}
		}
	}
}

func TestPicked(t *testing.T) {
	row := []int64{10, -20, 30}
	cases := []struct{ row, places, want []int64 }{
		{row, []int64{0}, []int64{10}},
		{row, []int64{0, 1, 2}, []int64{10, -20, 30}},
		{row, []int64{2, 0}, []int64{30, 10}},
		{row, []int64{1, 1, 1}, []int64{-20, -20, -20}},
		{row, []int64{2, 2, 2, 2, 2, 2, 2}, slices.Repeat([]int64{30}, 7)},
		{row, nil, nil},
		{nil, nil, nil},
		{row, []int64{3}, nil},
		{row, []int64{-1}, nil},
		{row, []int64{0, 3}, nil},
		{row, []int64{3, 0}, nil},
		{row, []int64{0, -1, 1}, nil},
		{row, []int64{math.MaxInt64}, nil},
		{row, []int64{math.MinInt64}, nil},
		{row, []int64{1 << 32}, nil},
		{nil, []int64{0}, nil},
		{row[:1:3], []int64{1}, nil},
		// Nothing asks that the row be right.
		{[]int64{1, 2, 3, 4, 5, 6, 7}, []int64{6, 0}, []int64{7, 1}},
		{[]int64{math.MaxInt64}, []int64{0}, []int64{math.MaxInt64}},
	}
	for _, c := range cases {
		if got := impl.Picked(c.row, c.places); !slices.Equal(got, c.want) {
			t.Errorf("Picked(%v, %v) = %v, want %v", c.row, c.places, got, c.want)
		}
	}
}

// Promise 21, as far as rows go.
func TestRowsStayAndAnswersAreNew(t *testing.T) {
	room := []int64{3, 1, 2, 77, 78}
	row, places := room[:3], []int64{0, 1, 2, 0, 0}
	impl.RowOk(row)
	impl.RowLess(row, places)
	impl.RowLess(places, row)
	impl.ShowRow(row)
	impl.Picked(row, places[:3])
	if !slices.Equal(room, []int64{3, 1, 2, 77, 78}) || !slices.Equal(places, []int64{0, 1, 2, 0, 0}) {
		t.Fatal("an argument was written into", room, places)
	}

	picked, again := impl.Picked(row, places[:3]), impl.Picked(row, places[:3])
	overwrite(picked)
	if !slices.Equal(room, []int64{3, 1, 2, 77, 78}) || !slices.Equal(places, []int64{0, 1, 2, 0, 0}) {
		t.Fatal("what is Picked shares memory with an argument", room, places)
	}
	if !slices.Equal(again, []int64{3, 1, 2}) {
		t.Fatal("two answers of Picked share memory", again)
	}

	one, _ := impl.ReadRow("3 1 2")
	other, _ := impl.ReadRow("3 1 2")
	overwrite(one)
	if !slices.Equal(other, []int64{3, 1, 2}) {
		t.Fatal("two answers of ReadRow share memory", other)
	}
}

// overwrite writes into a list and into the spare room behind it.
func overwrite(list []int64) {
	list = list[:cap(list)]
	for i := range list {
		list[i] = -99
	}
}
