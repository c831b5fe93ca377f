package tests

import (
	"fmt"
	"math"
	"slices"
	"testing"

	"loop.example/g00604/impl"
)

func table(name string, width int64, rows ...[]int64) impl.Table {
	return impl.Table{Name: name, Width: width, Rows: rows}
}

func sameTable(a impl.Table, b impl.Table) bool {
	return a.Name == b.Name && a.Width == b.Width && slices.EqualFunc(a.Rows, b.Rows, slices.Equal)
}

func cloneTable(t impl.Table) impl.Table {
	rows := make([][]int64, len(t.Rows))
	for i, row := range t.Rows {
		rows[i] = slices.Clone(row)
	}
	return impl.Table{Name: t.Name, Width: t.Width, Rows: rows}
}

// tableOfSize has the keys 0, 2, 4 and so on.
func tableOfSize(size int) impl.Table {
	t := table("full", 2)
	for i := range int64(size) {
		t.Rows = append(t.Rows, []int64{2 * i, -i})
	}
	return t
}

func rightTables() map[string]impl.Table {
	return map[string]impl.Table{
		"no row":                 table("a", 1),
		"an empty list of rows":  {Name: "a", Width: 1, Rows: [][]int64{}},
		"a name of 1 byte":       table("z", 2, []int64{1, 2}),
		"a name of 6 bytes":      table("abcxyz", 2, []int64{1, 2}),
		"a name of the ends":     table("azazaz", 2, []int64{1, 2}),
		"Width 1":                table("a", 1, []int64{-5}, []int64{0}, []int64{5}),
		"Width 3":                table("a", 3, []int64{1, 2, 3}, []int64{2, 2, 3}),
		"Width 4":                table("a", 4, []int64{1, 2, 3, 4}, []int64{5, 6, 7, 8}),
		"Width 4, no row":        table("a", 4),
		"MaxRows rows":           tableOfSize(30),
		"one fewer than MaxRows": tableOfSize(29),
		"outermost numbers":      table("a", 2, []int64{-1000, 1000}, []int64{1000, -1000}),
		"keys one apart":         table("a", 1, []int64{-1}, []int64{0}, []int64{1}),
		"all but the key fall":   table("a", 2, []int64{1, 9}, []int64{2, 8}, []int64{3, -7}),
		"all but the key alike":  table("a", 2, []int64{1, 9}, []int64{2, 9}),
	}
}

func wrongTables() map[string]impl.Table {
	row := []int64{1, 2}
	tables := map[string]impl.Table{
		"the zero Table":            {},
		"Width 0, no row":           table("a", 0),
		"Width 0, an empty row":     table("a", 0, []int64{}),
		"Width 5, no row":           table("a", 5),
		"Width 5":                   table("a", 5, []int64{1, 2, 3, 4, 5}),
		"Width -1":                  table("a", -1),
		"greatest Width":            table("a", math.MaxInt64),
		"least Width":               table("a", math.MinInt64),
		"Width a multiple of 2^32":  table("a", 1<<32+2, row),
		"an empty row":              table("a", 2, []int64{}),
		"nil for a row":             table("a", 1, nil),
		"an empty row at the end":   table("a", 2, row, nil),
		"a row too short":           table("a", 3, row),
		"a row too long":            table("a", 1, row),
		"a row too long at the end": table("a", 2, row, []int64{2, 3, 4}),
		"one more than MaxRows":     tableOfSize(31),
		"far more than MaxRows":     tableOfSize(400),
		"a key too large":           table("a", 2, []int64{1001, 2}),
		"a key too small":           table("a", 2, []int64{-1001, 2}),
		"a number too large":        table("a", 2, []int64{1, 1001}),
		"a number too small":        table("a", 2, []int64{1, -1001}),
		"a number of the last row":  table("a", 2, row, []int64{2, 2}, []int64{3, 1001}),
		"the greatest number":       table("a", 2, []int64{1, math.MaxInt64}),
		"the least number":          table("a", 2, []int64{math.MinInt64, 1}),
		"two keys alike":            table("a", 2, row, row),
		"two keys alike, rows not":  table("a", 2, []int64{1, 2}, []int64{1, 3}),
		"two keys alike at the end": table("a", 2, []int64{0, 0}, []int64{1, 2}, []int64{1, 3}),
		"keys that fall":            table("a", 2, []int64{2, 1}, []int64{1, 2}),
		"keys that fall at the end": table("a", 1, []int64{1}, []int64{3}, []int64{2}),
	}
	for _, name := range wrongNames() {
		tables[fmt.Sprintf("the name %q", name)] = table(name, 2, row)
	}
	return tables
}

func wrongNames() []string {
	return []string{
		"", "abcdefg", "aaaaaaaaaaaaaaaaaaaa", "A", "Z", "aB", "a1", "1", " ", "a b", "a ", " a",
		"`", "{", "a`", "{a", "a-", "a_", "a\n", "\x00", "a\x00", "\x80", "\xff", "a\xe1", "é", "ab\u0430",
	}
}

func TestTableLimit(t *testing.T) {
	if impl.MaxRows != 30 {
		t.Fatal(impl.MaxRows)
	}
}

func TestTableOk(t *testing.T) {
	for name, x := range rightTables() {
		if !impl.TableOk(x) {
			t.Errorf("%s: TableOk(%v) is false", name, x)
		}
	}
	for name, x := range wrongTables() {
		if impl.TableOk(x) {
			t.Errorf("%s: TableOk(%v) is true", name, x)
		}
	}
}

func TestNamesOfEveryByte(t *testing.T) {
	for b := range 256 {
		for _, name := range []string{string([]byte{byte(b)}), string([]byte{'a', byte(b), 'z'}), string([]byte{'a', 'b', 'c', 'd', 'e', byte(b)})} {
			if got := impl.TableOk(table(name, 1)); got != ('a' <= b && b <= 'z') {
				t.Errorf("TableOk of the name %q is %v", name, got)
			}
		}
	}
}

func TestRowAt(t *testing.T) {
	x := table("a", 2, []int64{-1000, 7}, []int64{-3, -3}, []int64{0, 5}, []int64{4, 0}, []int64{1000, -7})
	cases := []struct {
		key  int64
		want []int64
	}{
		{-1000, []int64{-1000, 7}},
		{-3, []int64{-3, -3}},
		{0, []int64{0, 5}},
		{4, []int64{4, 0}},
		{1000, []int64{1000, -7}},
		{-1001, nil},
		{-999, nil},
		{-4, nil},
		{-2, nil},
		{5, nil},
		{7, nil},
		{999, nil},
		{1001, nil},
		{math.MaxInt64, nil},
		{math.MinInt64, nil},
		{1 << 32, nil},
	}
	for _, c := range cases {
		if got, is := impl.RowAt(x, c.key); is != (c.want != nil) || !slices.Equal(got, c.want) {
			t.Errorf("RowAt(%d) = %v, %v, want %v", c.key, got, is, c.want)
		}
	}
	if got, is := impl.RowAt(table("a", 2), 0); is || len(got) != 0 {
		t.Error("RowAt of a table of no row", got, is)
	}
	// What stands in the spare room is not there.
	if got, is := impl.RowAt(impl.Table{Name: "a", Width: 2, Rows: x.Rows[:2]}, 0); is || len(got) != 0 {
		t.Error("RowAt of the spare room", got, is)
	}
}

func TestPlaced(t *testing.T) {
	x := table("ab", 2, []int64{-3, 9}, []int64{0, 5}, []int64{4, 0})
	cases := []struct {
		name  string
		table impl.Table
		row   []int64
		want  impl.Table
	}{
		{"into none", table("a", 1), []int64{5}, table("a", 1, []int64{5})},
		{"ahead of all", x, []int64{-4, 1}, table("ab", 2, []int64{-4, 1}, []int64{-3, 9}, []int64{0, 5}, []int64{4, 0})},
		{"between the first two", x, []int64{-2, 1}, table("ab", 2, []int64{-3, 9}, []int64{-2, 1}, []int64{0, 5}, []int64{4, 0})},
		{"between the last two", x, []int64{1, 1}, table("ab", 2, []int64{-3, 9}, []int64{0, 5}, []int64{1, 1}, []int64{4, 0})},
		{"behind all", x, []int64{5, 1}, table("ab", 2, []int64{-3, 9}, []int64{0, 5}, []int64{4, 0}, []int64{5, 1})},
		{"all but the key is there", x, []int64{1, 5}, table("ab", 2, []int64{-3, 9}, []int64{0, 5}, []int64{1, 5}, []int64{4, 0})},
		{"least numbers", x, []int64{-1000, -1000}, table("ab", 2, []int64{-1000, -1000}, []int64{-3, 9}, []int64{0, 5}, []int64{4, 0})},
		{"greatest numbers", x, []int64{1000, 1000}, table("ab", 2, []int64{-3, 9}, []int64{0, 5}, []int64{4, 0}, []int64{1000, 1000})},
		{"Width 4", table("a", 4, []int64{1, 1, 1, 1}), []int64{0, 2, 2, 2}, table("a", 4, []int64{0, 2, 2, 2}, []int64{1, 1, 1, 1})},
	}
	for _, c := range cases {
		if got, is := impl.Placed(c.table, c.row); !is || !sameTable(got, c.want) {
			t.Errorf("%s: Placed(%v, %v) = %v, %v, want %v", c.name, c.table, c.row, got, is, c.want)
		}
	}
}

func TestPlacedRefuses(t *testing.T) {
	x := table("ab", 2, []int64{-3, 9}, []int64{0, 5}, []int64{4, 0})
	cases := []struct {
		name  string
		table impl.Table
		row   []int64
	}{
		{"the first key", x, []int64{-3, 1}},
		{"a key between", x, []int64{0, 1}},
		{"the last key", x, []int64{4, 1}},
		{"a row that is there", x, []int64{0, 5}},
		{"no row", x, nil},
		{"an empty row", x, []int64{}},
		{"no row into none", table("a", 1), nil},
		{"a row too short", x, []int64{1}},
		{"a row too long", x, []int64{1, 2, 3}},
		{"a row far too long", x, make([]int64, 1000)},
		{"spare room is not of the row", x, []int64{1, 2}[:1]},
		{"a key too large", x, []int64{1001, 0}},
		{"a key too small", x, []int64{-1001, 0}},
		{"a number too large", x, []int64{1, 1001}},
		{"a number too small", x, []int64{1, -1001}},
		{"the greatest number", x, []int64{1, math.MaxInt64}},
		{"the least number", x, []int64{math.MinInt64, 1}},
		{"no room ahead", tableOfSize(30), []int64{-1, 0}},
		{"no room between", tableOfSize(30), []int64{7, 0}},
		{"no room behind", tableOfSize(30), []int64{99, 0}},
		{"no room, and the key is there", tableOfSize(30), []int64{8, 0}},
		{"no room, and another width", tableOfSize(30), []int64{7}},
	}
	for _, c := range cases {
		want := cloneTable(c.table)
		if got, is := impl.Placed(c.table, c.row); is || !sameTable(got, want) {
			t.Errorf("%s: Placed(%v, %v) = %v, %v", c.name, c.table, c.row, got, is)
		}
	}
}

func TestPlacedUpToMaxRows(t *testing.T) {
	for _, step := range []int64{1, 7, 11, 13, 29} {
		x := table("a", 1)
		for i := range int64(30) {
			is := false
			if x, is = impl.Placed(x, []int64{i * step % 30}); !is || !impl.TableOk(x) || len(x.Rows) != int(i)+1 {
				t.Fatalf("row %d by steps of %d: %v, %v", i, step, x, is)
			}
		}
		for i, row := range x.Rows {
			if row[0] != int64(i) {
				t.Fatalf("by steps of %d: %v", step, x)
			}
		}
		if got, is := impl.Placed(x, []int64{30}); is || !sameTable(got, x) {
			t.Fatalf("one more than MaxRows: %v, %v", got, is)
		}
	}
	if got, is := impl.Placed(tableOfSize(29), []int64{58, -29}); !is || !sameTable(got, tableOfSize(30)) {
		t.Fatal("the last one that has room", got, is)
	}
}

func TestTaken(t *testing.T) {
	x := table("ab", 2, []int64{-3, 9}, []int64{0, 5}, []int64{4, 0})
	cases := []struct {
		table impl.Table
		key   int64
		want  impl.Table
		is    bool
	}{
		{x, -3, table("ab", 2, []int64{0, 5}, []int64{4, 0}), true},
		{x, 0, table("ab", 2, []int64{-3, 9}, []int64{4, 0}), true},
		{x, 4, table("ab", 2, []int64{-3, 9}, []int64{0, 5}), true},
		{table("a", 1, []int64{7}), 7, table("a", 1), true},
		{table("a", 2, []int64{-1000, 0}, []int64{1000, 0}), -1000, table("a", 2, []int64{1000, 0}), true},
		{table("a", 2, []int64{-1000, 0}, []int64{1000, 0}), 1000, table("a", 2, []int64{-1000, 0}), true},
		{tableOfSize(30), 58, tableOfSize(29), true},
		{x, -4, x, false},
		{x, -2, x, false},
		{x, 1, x, false},
		{x, 5, x, false},
		{x, 9, x, false},
		{x, 1001, x, false},
		{x, math.MaxInt64, x, false},
		{x, math.MinInt64, x, false},
		{table("a", 3), 0, table("a", 3), false},
		{tableOfSize(30), 57, tableOfSize(30), false},
	}
	for _, c := range cases {
		if got, is := impl.Taken(c.table, c.key); is != c.is || !sameTable(got, c.want) {
			t.Errorf("Taken(%v, %d) = %v, %v, want %v, %v", c.table, c.key, got, is, c.want, c.is)
		}
	}
}

// smallTables are all tables of some of these keys.
func smallTables(keys []int64) []impl.Table {
	tables := []impl.Table{table("ab", 2)}
	for _, key := range keys {
		for _, x := range tables {
			more := cloneTable(x)
			more.Rows = append(more.Rows, []int64{key, -key})
			tables = append(tables, more)
		}
	}
	return tables
}

// Promise 4: what was Placed is there, Taken it is as before.
func TestWhatWasPlacedIsThereAndTakenItIsAsBefore(t *testing.T) {
	keys := []int64{-1000, -4, -1, 0, 2, 1000}
	for _, x := range smallTables(keys) {
		for _, key := range keys {
			before, there := impl.RowAt(x, key)
			row := []int64{key, 77}
			with, placed := impl.Placed(x, row)
			without, taken := impl.Taken(x, key)
			if placed == there || taken != there || !impl.TableOk(with) || !impl.TableOk(without) {
				t.Fatalf("%v, %d: there %v, Placed %v, Taken %v", x, key, there, placed, taken)
			}
			if there {
				checkOneMore(t, without, x, before)
			} else {
				checkOneMore(t, x, with, row)
			}
		}
	}
}

// checkOneMore sees to it that more is that table with this row: there it is, every other one stays, and each way leads to the other.
func checkOneMore(t *testing.T, x impl.Table, more impl.Table, row []int64) {
	t.Helper()
	if got, is := impl.RowAt(more, row[0]); !is || !slices.Equal(got, row) {
		t.Fatalf("%v, with %v: it is not there: %v, %v", x, row, got, is)
	}
	if got, is := impl.RowAt(x, row[0]); is {
		t.Fatalf("%v, without %v: it is there: %v", x, row, got)
	}
	if len(more.Rows) != len(x.Rows)+1 {
		t.Fatalf("%v, with %v, is %v", x, row, more)
	}
	for _, other := range x.Rows {
		if got, is := impl.RowAt(more, other[0]); !is || !slices.Equal(got, other) {
			t.Fatalf("%v, with %v: %v became %v, %v", x, row, other, got, is)
		}
	}
	if got, is := impl.Taken(more, row[0]); !is || !sameTable(got, x) {
		t.Fatalf("%v, with %v, and Taken again: %v, %v", x, row, got, is)
	}
	if got, is := impl.Placed(x, row); !is || !sameTable(got, more) {
		t.Fatalf("%v, and %v Placed again: %v, %v", x, row, got, is)
	}
}

func TestBagIn(t *testing.T) {
	x := table("ab", 2, []int64{-1000, 9}, []int64{-3, 5}, []int64{0, 5}, []int64{4, 0}, []int64{1000, -9})
	all := "-1000 9;-3 5;0 5;4 0;1000 -9"
	cases := []struct {
		from, to int64
		want     string
	}{
		{-1001, 1000, all},
		{-1001, 1001, all},
		{math.MinInt64, math.MaxInt64, all},
		{-1000, 1000, "-3 5;0 5;4 0;1000 -9"},
		{-1001, 999, "-1000 9;-3 5;0 5;4 0"},
		{-1000, 999, "-3 5;0 5;4 0"},
		{-1001, -1000, "-1000 9"},
		{-1001, -4, "-1000 9"},
		{-4, 3, "-3 5;0 5"},
		{-3, 4, "0 5;4 0"},
		{-3, 3, "0 5"},
		{-4, -3, "-3 5"},
		{-1, 0, "0 5"},
		{-3, -1, ""},
		{0, 3, ""},
		{1, 3, ""},
		{999, 1000, "1000 -9"},
		{1000, 1001, ""},
		{1000, math.MaxInt64, ""},
		{math.MinInt64, -1001, ""},
		{math.MaxInt64 - 1, math.MaxInt64, ""},
		// from is not less than to
		{0, 0, ""},
		{-1000, -1000, ""},
		{1, 1, ""},
		{0, -1, ""},
		{4, -3, ""},
		{5, -4, ""},
		{1000, -1001, ""},
		{math.MaxInt64, math.MinInt64, ""},
		{math.MaxInt64, math.MaxInt64, ""},
		{math.MinInt64, math.MinInt64, ""},
	}
	for _, c := range cases {
		if got := impl.ShowBag(impl.BagIn(x, c.from, c.to)); got != c.want {
			t.Errorf("BagIn(%d, %d) = %q, want %q", c.from, c.to, got, c.want)
		}
	}
	if got := impl.BagIn(table("a", 1), -1001, 1000); len(got) != 0 {
		t.Error("BagIn of a table of no row", got)
	}
	if got := impl.BagIn(tableOfSize(30), -1001, 1000); len(got) != 30 || !impl.IsSet(got) {
		t.Error("BagIn of a full table", got)
	}
}

func TestBagInIsOfTheRowsBetween(t *testing.T) {
	for _, x := range smallTables([]int64{-3, -2, 0, 1, 3}) {
		for from := int64(-5); from <= 5; from++ {
			for to := int64(-5); to <= 5; to++ {
				var rows [][]int64
				for _, row := range x.Rows {
					if row[0] > from && row[0] <= to {
						rows = append(rows, row)
					}
				}
				if got := impl.BagIn(x, from, to); !sameBag(got, impl.BagOf(rows)) || len(got) != len(rows) {
					t.Fatalf("BagIn(%v, %d, %d) = %v", x, from, to, got)
				}
			}
		}
	}
}

func TestWhatIsNoTable(t *testing.T) {
	for name, x := range wrongTables() {
		rows := [][]int64{nil, {0}, {50}, {50, 1}, {1, 2}, {1, 2, 3, 4, 5}}
		for _, row := range rows {
			if got, is := impl.Placed(x, row); is || !sameTable(got, impl.Table{}) {
				t.Errorf("%s: Placed(%v) = %v, %v", name, row, got, is)
			}
		}
		for _, key := range []int64{math.MinInt64, -1001, 0, 1, 2, 50, 1001, math.MaxInt64} {
			if got, is := impl.RowAt(x, key); is || len(got) != 0 {
				t.Errorf("%s: RowAt(%d) = %v, %v", name, key, got, is)
			}
			if got, is := impl.Taken(x, key); is || !sameTable(got, impl.Table{}) {
				t.Errorf("%s: Taken(%d) = %v, %v", name, key, got, is)
			}
		}
		for _, ends := range [][2]int64{{-1001, 1000}, {math.MinInt64, math.MaxInt64}, {1, -1}} {
			if got := impl.BagIn(x, ends[0], ends[1]); len(got) != 0 {
				t.Errorf("%s: BagIn(%v) = %v", name, ends, got)
			}
		}
	}
}

// roomyTable is the first size of these rows, with spare room behind them and behind each, and all its memory as a text.
func roomyTable(size int, rows ...[]int64) (impl.Table, func() string) {
	whole := make([][]int64, 0, len(rows)+2)
	for _, row := range rows {
		roomy := append(make([]int64, 0, len(row)+3), row...)
		copy(roomy[len(row):cap(roomy)], []int64{71, 72, 73})
		whole = append(whole, roomy)
	}
	return impl.Table{Name: "ab", Width: 2, Rows: whole[:size]}, func() string {
		text := ""
		for _, row := range whole[:cap(whole)] {
			text += fmt.Sprint(len(row), row[:cap(row)], ";")
		}
		return text
	}
}

// overwriteTable writes into the rows of a table, and into the spare room behind them and behind each.
func overwriteTable(t impl.Table) {
	rows := t.Rows[:cap(t.Rows)]
	for i := range rows {
		overwrite(rows[i])
		rows[i] = []int64{-98}
	}
}

// checkTableRowsApart sees to it that no two rows of one answer share memory, nor the spare room behind them; what stands in the spare room behind the last row may be written into, too.
func checkTableRowsApart(t *testing.T, x impl.Table) {
	t.Helper()
	want := cloneTable(x)
	for i, row := range x.Rows[:cap(x.Rows)] {
		overwrite(row)
		if i < len(want.Rows) {
			copy(row, want.Rows[i])
		}
		if !sameTable(x, want) {
			t.Fatalf("rows of one answer share memory: %v, want %v", x, want)
		}
	}
}

// checkTableNew sees to it that the table that is answered shares nothing with the arguments, of which memory tells, nor with another answer, nor within itself.
func checkTableNew(t *testing.T, name string, memory func() string, answer func() impl.Table) {
	t.Helper()
	was := memory()
	one := answer()
	want := cloneTable(one)
	other := answer()
	if memory() != was {
		t.Fatalf("%s writes into an argument", name)
	}
	overwriteTable(one)
	if memory() != was {
		t.Fatalf("%s shares memory with an argument", name)
	}
	if !sameTable(other, want) {
		t.Fatalf("two answers of %s share memory", name)
	}
	checkTableRowsApart(t, other)
}

// Promise 21, as far as tables go.
func TestTablesStayAndAnswersAreNew(t *testing.T) {
	// Ahead, there, between, there, there, behind; the last ones are in the spare room.
	for _, key := range []int64{0, 1, 2, 3, 5, 6, 8, 9} {
		for _, width := range []int{0, 1, 2, 3} {
			x, tableMemory := roomyTable(3, []int64{1, 10}, []int64{3, 20}, []int64{5, 30}, []int64{8, 40}, []int64{9, 50})
			room := []int64{key, 60, 61, 62}
			memory := func() string { return tableMemory() + fmt.Sprint(room) }
			checkTableNew(t, fmt.Sprint("Placed ", key, ", of Width ", width), memory, func() impl.Table {
				placed, _ := impl.Placed(x, room[:width])
				return placed
			})
			checkTableNew(t, fmt.Sprint("Taken ", key), memory, func() impl.Table {
				taken, _ := impl.Taken(x, key)
				return taken
			})
			checkAnswersNew(t, fmt.Sprint("BagIn up to ", key), memory, func() []impl.Count { return impl.BagIn(x, 0, key) })
			checkAnswersNew(t, fmt.Sprint("BagIn from ", key), memory, func() []impl.Count { return impl.BagIn(x, key, 1000) })
		}
	}
}

func TestFullTablesStayAndAnswersAreNew(t *testing.T) {
	x, memory := roomyTable(30, tableOfSize(31).Rows...)
	checkTableNew(t, "Placed without room", memory, func() impl.Table {
		placed, _ := impl.Placed(x, []int64{7, 7})
		return placed
	})
	checkTableNew(t, "Taken of a full table", memory, func() impl.Table {
		taken, _ := impl.Taken(x, 0)
		return taken
	})
	checkAnswersNew(t, "BagIn of a full table", memory, func() []impl.Count { return impl.BagIn(x, -1001, 1000) })
}

func TestRowAtIsNew(t *testing.T) {
	x, memory := roomyTable(2, []int64{1, 10}, []int64{3, 20}, []int64{5, 30})
	was := memory()
	one, _ := impl.RowAt(x, 3)
	other, _ := impl.RowAt(x, 3)
	none, _ := impl.RowAt(x, 5)
	impl.TableOk(x)
	if memory() != was {
		t.Fatal("an argument was written into")
	}
	overwrite(one)
	overwrite(none)
	if memory() != was {
		t.Fatal("RowAt shares memory with an argument")
	}
	if !slices.Equal(other, []int64{3, 20}) {
		t.Fatal("two answers of RowAt share memory", other)
	}
}

// The rows of an argument may share memory with each other, and with the row to be Placed.
func TestTablesOfRowsInOneMemory(t *testing.T) {
	cells := []int64{1, 2, 3, 4, 5}
	x := table("ab", 2, cells[:2], cells[1:3], cells[3:])
	was := slices.Clone(cells)
	placed, is := impl.Placed(x, cells[2:4])
	if !is || !sameTable(placed, table("ab", 2, []int64{1, 2}, []int64{2, 3}, []int64{3, 4}, []int64{4, 5})) {
		t.Fatal(placed, is)
	}
	taken, _ := impl.Taken(x, 1)
	same, _ := impl.Taken(x, 9)
	for _, answer := range []impl.Table{placed, taken, same} {
		checkTableRowsApart(t, answer)
		overwriteTable(answer)
	}
	if !slices.Equal(cells, was) {
		t.Fatal("an answer shares memory with an argument", cells)
	}
}

// What is refused is not written into either.
func TestWhatIsNoTableStays(t *testing.T) {
	x, memory := roomyTable(3, []int64{1, 10}, []int64{5, 20}, []int64{3, 30}, []int64{8, 40})
	was := memory()
	placed, _ := impl.Placed(x, []int64{4, 4})
	taken, _ := impl.Taken(x, 5)
	row, _ := impl.RowAt(x, 5)
	counts := impl.BagIn(x, -1001, 1000)
	overwriteTable(placed)
	overwriteTable(taken)
	overwrite(row)
	overwriteBag(counts)
	if memory() != was {
		t.Fatal("an argument was written into")
	}
}
