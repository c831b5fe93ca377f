package impl

import (
	"iter"
	"strconv"
	"strings"
)

const MaxWidth = 6
const MaxCell = 1000000000

// noNumber is how the row of no number is shown.
const noNumber = "-"

func RowOk(row []int64) bool {
	if len(row) > MaxWidth {
		return false
	}
	for n := range cells(row) {
		if n < -MaxCell || n > MaxCell {
			return false
		}
	}
	return true
}

func RowLess(a []int64, b []int64) bool {
	for x, y := range sideBySide(a, b) {
		if x != y {
			return x < y
		}
	}
	return len(a) < len(b)
}

func ShowRow(row []int64) string {
	if !RowOk(row) {
		return ""
	}
	if len(row) == 0 {
		return noNumber
	}
	var text []byte
	for n := range cells(row) {
		if len(text) > 0 {
			text = append(text, ' ')
		}
		text = strconv.AppendInt(text, n, 10)
	}
	return string(text)
}

func ReadRow(s string) ([]int64, bool) {
	if s == noNumber {
		return []int64{}, true
	}
	var row []int64
	// One word more than a row may have is enough to see that there are too many.
	for _, word := range strings.SplitN(s, " ", MaxWidth+1) {
		n, err := strconv.ParseInt(word, 10, 64)
		if err != nil {
			return []int64{}, false
		}
		row = append(row, n)
	}
	// ParseInt also takes what is never shown, such as +1, 01 and -0.
	if ShowRow(row) != s {
		return []int64{}, false
	}
	return row, true
}

func Picked(row []int64, places []int64) []int64 {
	picked := make([]int64, 0, len(places))
	for _, place := range places {
		if place < 0 || place >= int64(len(row)) {
			return []int64{}
		}
		picked = append(picked, row[place])
	}
	return picked
}

// cells goes through the numbers of a row.
func cells(row []int64) iter.Seq[int64] {
	return func(yield func(int64) bool) {
		for _, n := range row {
			if !yield(n) {
				return
			}
		}
	}
}

// sideBySide goes through the places that both rows have, with the number of each.
func sideBySide(a []int64, b []int64) iter.Seq2[int64, int64] {
	return func(yield func(int64, int64) bool) {
		for i := range min(len(a), len(b)) {
			if !yield(a[i], b[i]) {
				return
			}
		}
	}
}
