package tests

import (
	"cmp"
	"fmt"
	"maps"
	"math"
	"slices"
	"strings"
	"testing"

	"loop.example/g00604/impl"
)

func sameBase(a []impl.Table, b []impl.Table) bool {
	return slices.EqualFunc(a, b, sameTable)
}

func cloneBase(b []impl.Table) []impl.Table {
	base := make([]impl.Table, len(b))
	for i, t := range b {
		base[i] = cloneTable(t)
	}
	return base
}

func batch(t *testing.T, text string) []impl.Deed {
	t.Helper()
	list, is := impl.ReadBatch(text)
	if !is {
		t.Fatalf("%q is no batch", text)
	}
	return list
}

// threeTables leaves room ahead of, between and behind its names.
func threeTables() []impl.Table {
	return []impl.Table{
		table("b", 1, []int64{7}),
		table("d", 2, []int64{-3, 9}, []int64{0, 5}, []int64{4, 0}),
		table("full", 2, tableOfSize(30).Rows...),
	}
}

func baseOfSize(size int) []impl.Table {
	base := []impl.Table{}
	for i := range size {
		base = append(base, table("abcdefghijklmnopqrstuvwxyz"[i:i+1], 2, []int64{int64(i), 1}))
	}
	return base
}

func rightBases() map[string][]impl.Table {
	return map[string][]impl.Table{
		"nil":                         nil,
		"no table":                    {},
		"one":                         {table("a", 1)},
		"three":                       threeTables(),
		"one fewer than MaxTables":    baseOfSize(3),
		"MaxTables":                   baseOfSize(4),
		"MaxTables full tables":       {table("a", 2, tableOfSize(30).Rows...), table("b", 2, tableOfSize(30).Rows...), table("c", 2, tableOfSize(30).Rows...), table("d", 2, tableOfSize(30).Rows...)},
		"a name that begins another":  {table("a", 1), table("aa", 1), table("ab", 1)},
		"a short one behind a longer": {table("aaaaaa", 1), table("ab", 1), table("b", 1)},
		"rows alike in two":           {table("a", 2, []int64{1, 2}), table("b", 2, []int64{1, 2})},
		"the last name":               {table("zzzzzy", 4), table("zzzzzz", 4)},
		"widths that fall":            {table("a", 4), table("b", 3), table("c", 2), table("d", 1)},
	}
}

func wrongBases() map[string][]impl.Table {
	bases := map[string][]impl.Table{
		"one more than MaxTables":          baseOfSize(5),
		"far more than MaxTables":          baseOfSize(26),
		"names that fall":                  {table("b", 1), table("a", 1)},
		"names that fall at the end":       {table("a", 1), table("c", 1), table("b", 1)},
		"names that fall at the beginning": {table("b", 1), table("a", 1), table("c", 1)},
		"a name behind one it begins":      {table("aa", 1), table("a", 1)},
		"a longer name ahead":              {table("b", 1), table("aa", 1)},
		"two names alike":                  {table("a", 1), table("a", 1)},
		"two names alike, tables not":      {table("a", 1, []int64{1}), table("a", 2, []int64{2, 3})},
		"two names alike at the end":       {table("a", 1), table("b", 1), table("b", 1)},
		"two names alike, one between":     {table("a", 1), table("b", 1), table("a", 1)},
		"one more, all alike":              slices.Repeat([]impl.Table{table("a", 1)}, 5),
		"the zero Table ahead":             {{}, table("a", 1)},
	}
	for name, wrong := range wrongTables() {
		bases["alone: "+name] = []impl.Table{wrong}
		// A name that is right is made one that rises, so that nothing but the table is wrong.
		first, middle, last := wrong, wrong, wrong
		if !slices.Contains(wrongNames(), wrong.Name) {
			first.Name, middle.Name, last.Name = "a", "c", "y"
		}
		bases["first: "+name] = []impl.Table{first, table("b", 1), table("x", 1)}
		bases["between: "+name] = []impl.Table{table("b", 1), middle, table("x", 1)}
		bases["last: "+name] = []impl.Table{table("b", 1), table("x", 1), last}
	}
	return bases
}

func TestBaseConstants(t *testing.T) {
	codes := []int{impl.BtDone, impl.BtNone, impl.BtThere, impl.BtKey, impl.BtBad, impl.BtFull, impl.BtUsed}
	if !slices.Equal(codes, []int{0, 1, 2, 3, 4, 5, 6}) || impl.MaxTables != 4 {
		t.Fatal(codes, impl.MaxTables)
	}
}

func TestBaseOk(t *testing.T) {
	for name, b := range rightBases() {
		if !impl.BaseOk(b) {
			t.Errorf("%s: BaseOk(%v) is false", name, b)
		}
	}
	for name, b := range wrongBases() {
		if impl.BaseOk(b) {
			t.Errorf("%s: BaseOk(%v) is true", name, b)
		}
	}
}

// Names rise by their bytes, whatever their length.
func TestNamesInABaseRise(t *testing.T) {
	names := []string{"a", "aa", "aaa", "ab", "aba", "az", "b", "ba", "z", "za", "zzzzzz"}
	for i, one := range names {
		for j, other := range names {
			if got := impl.BaseOk([]impl.Table{table(one, 1), table(other, 1)}); got != (i < j) {
				t.Errorf("BaseOk of the names %q and %q is %v", one, other, got)
			}
		}
	}
}

func TestTableIn(t *testing.T) {
	for name, b := range rightBases() {
		for _, want := range b {
			if got, is := impl.TableIn(b, want.Name); !is || !sameTable(got, want) {
				t.Errorf("%s: TableIn(%q) = %v, %v, want %v", name, want.Name, got, is, want)
			}
		}
		for _, none := range append(wrongNames(), "q", "bb", "fulll", "ful", "zzz") {
			if got, is := impl.TableIn(b, none); is || !sameTable(got, impl.Table{}) {
				t.Errorf("%s: TableIn(%q) = %v, %v", name, none, got, is)
			}
		}
	}
	// What stands in the spare room is not there.
	if got, is := impl.TableIn(threeTables()[:1], "d"); is || !sameTable(got, impl.Table{}) {
		t.Error("TableIn of the spare room", got, is)
	}
}

// The chapter names no refusal of what is no base: the first table of that name is the one, and none where there is none.
func TestTableInWhatIsNoBase(t *testing.T) {
	for name, b := range wrongBases() {
		for _, x := range b {
			want := b[slices.IndexFunc(b, func(y impl.Table) bool { return y.Name == x.Name })]
			if got, is := impl.TableIn(b, x.Name); !is || !sameTable(got, want) {
				t.Errorf("%s: TableIn(%q) = %v, %v, want %v", name, x.Name, got, is, want)
			}
		}
		if got, is := impl.TableIn(b, "nobody"); is || !sameTable(got, impl.Table{}) {
			t.Errorf("%s: TableIn of none = %v, %v", name, got, is)
		}
	}
}

type deedCase struct {
	name string
	base []impl.Table
	deed impl.Deed
	want []impl.Table
}

// checkDone asks the deed alone, and as a batch of one.
func checkDone(t *testing.T, cases []deedCase) {
	t.Helper()
	for _, c := range cases {
		if got, code := impl.Does(c.base, c.deed); code != impl.BtDone || !sameBase(got, c.want) {
			t.Errorf("%s: Does(%v, %v) = %v, %d, want %v", c.name, c.base, c.deed, got, code, c.want)
		}
		if got, code := impl.Batched(c.base, []impl.Deed{c.deed}); code != impl.BtDone || !sameBase(got, c.want) {
			t.Errorf("%s: Batched(%v, %v) = %v, %d, want %v", c.name, c.base, c.deed, got, code, c.want)
		}
	}
}

func TestDeedsOnRowsAreDone(t *testing.T) {
	full := threeTables()[2]
	almost := table("full", 2, tableOfSize(29).Rows...)
	newLast := cloneTable(full)
	newLast.Rows[29] = []int64{58, 1000}
	with := func(d impl.Table) []impl.Table { return []impl.Table{table("b", 1, []int64{7}), d, full} }
	checkDone(t, []deedCase{
		{"put ahead", threeTables(), deed(1, "d", -4, 1), with(table("d", 2, []int64{-4, 1}, []int64{-3, 9}, []int64{0, 5}, []int64{4, 0}))},
		{"put between", threeTables(), deed(1, "d", 3, 1), with(table("d", 2, []int64{-3, 9}, []int64{0, 5}, []int64{3, 1}, []int64{4, 0}))},
		{"put behind", threeTables(), deed(1, "d", 1000, -1000), with(table("d", 2, []int64{-3, 9}, []int64{0, 5}, []int64{4, 0}, []int64{1000, -1000}))},
		{"put the least", threeTables(), deed(1, "d", -1000, 1000), with(table("d", 2, []int64{-1000, 1000}, []int64{-3, 9}, []int64{0, 5}, []int64{4, 0}))},
		{"put into none", []impl.Table{table("a", 4)}, deed(1, "a", 1, 2, 3, 4), []impl.Table{table("a", 4, []int64{1, 2, 3, 4})}},
		{"put the last that has room", []impl.Table{almost}, deed(1, "full", 58, -29), []impl.Table{full}},
		{"cut the first", threeTables(), deed(2, "d", -3), with(table("d", 2, []int64{0, 5}, []int64{4, 0}))},
		{"cut one between", threeTables(), deed(2, "d", 0), with(table("d", 2, []int64{-3, 9}, []int64{4, 0}))},
		{"cut the last", threeTables(), deed(2, "d", 4), with(table("d", 2, []int64{-3, 9}, []int64{0, 5}))},
		{"cut the only one", []impl.Table{table("b", 1, []int64{7})}, deed(2, "b", 7), []impl.Table{table("b", 1)}},
		{"cut of a full one", []impl.Table{full}, deed(2, "full", 58), []impl.Table{almost}},
		{"set the first", threeTables(), deed(3, "d", -3, -1), with(table("d", 2, []int64{-3, -1}, []int64{0, 5}, []int64{4, 0}))},
		{"set one between", threeTables(), deed(3, "d", 0, 1000), with(table("d", 2, []int64{-3, 9}, []int64{0, 1000}, []int64{4, 0}))},
		{"set the last", threeTables(), deed(3, "d", 4, -1000), with(table("d", 2, []int64{-3, 9}, []int64{0, 5}, []int64{4, -1000}))},
		{"set what it is", threeTables(), deed(3, "d", 0, 5), threeTables()},
		{"set a key alone", threeTables(), deed(3, "b", 7), threeTables()},
		{"set in a full one", []impl.Table{full}, deed(3, "full", 58, 1000), []impl.Table{newLast}},
		{"must the first", threeTables(), deed(4, "d", -3), threeTables()},
		{"must one between", threeTables(), deed(4, "d", 0), threeTables()},
		{"must the last", threeTables(), deed(4, "d", 4), threeTables()},
		{"must of a full one", threeTables(), deed(4, "full", 58), threeTables()},
	})
}

func TestDeedsOnTablesAreDone(t *testing.T) {
	b, d, full := threeTables()[0], threeTables()[1], threeTables()[2]
	checkDone(t, []deedCase{
		{"make in none", nil, deed(5, "a", 1), []impl.Table{table("a", 1)}},
		{"make ahead", threeTables(), deed(5, "a", 1), []impl.Table{table("a", 1), b, d, full}},
		{"make between the first two", threeTables(), deed(5, "c", 2), []impl.Table{b, table("c", 2), d, full}},
		{"make between the last two", threeTables(), deed(5, "e", 3), []impl.Table{b, d, table("e", 3), full}},
		{"make behind", threeTables(), deed(5, "g", 4), []impl.Table{b, d, full, table("g", 4)}},
		{"make behind one that begins it", threeTables(), deed(5, "bb", 4), []impl.Table{b, table("bb", 4), d, full}},
		{"make ahead of one it begins", threeTables(), deed(5, "ful", 4), []impl.Table{b, d, table("ful", 4), full}},
		{"make the fourth", baseOfSize(3), deed(5, "d", 2), []impl.Table{baseOfSize(3)[0], baseOfSize(3)[1], baseOfSize(3)[2], table("d", 2)}},
		{"drop the first", threeTables(), deed(6, "b"), []impl.Table{d, full}},
		{"drop one between", threeTables(), deed(6, "d"), []impl.Table{b, full}},
		{"drop the last", threeTables(), deed(6, "full"), []impl.Table{b, d}},
		{"drop the only one", []impl.Table{d}, deed(6, "d"), nil},
		{"drop of MaxTables", baseOfSize(4), deed(6, "d"), baseOfSize(3)},
	})
}

func TestDeedsAreRefused(t *testing.T) {
	full := []impl.Table{table("full", 2, tableOfSize(30).Rows...)}
	cases := []struct {
		name string
		base []impl.Table
		deed impl.Deed
		want int64
	}{
		{"put, no table", threeTables(), deed(1, "a", 1), 1},
		{"put, no table at all", nil, deed(1, "a", 1), 1},
		{"put, a name that begins one", threeTables(), deed(1, "ful", 1, 1), 1},
		{"put, no table, and a number out of range", threeTables(), deed(1, "a", 1001), 1},
		{"put, the key is there", threeTables(), deed(1, "d", 0, 1), 2},
		{"put, the row is there", threeTables(), deed(1, "d", 0, 5), 2},
		{"put, the key is there, too short", threeTables(), deed(1, "d", 0), 2},
		{"put, the key is there, too long", threeTables(), deed(1, "d", 4, 1, 1), 2},
		{"put, the key is there, a number out of range", threeTables(), deed(1, "d", -3, 1001), 2},
		{"put, the key is there, and it is full", full, deed(1, "full", 8, 0), 2},
		{"put, the key is there, too short, and it is full", full, deed(1, "full", 8), 2},
		{"put, too short", threeTables(), deed(1, "d", 1), 4},
		{"put, too long", threeTables(), deed(1, "d", 1, 2, 3), 4},
		{"put, as long as a row may be", threeTables(), deed(1, "d", 1, 2, 3, 4, 5, 6), 4},
		{"put, a key too large", threeTables(), deed(1, "d", 1001, 1), 4},
		{"put, a key too small", threeTables(), deed(1, "d", -1001, 1), 4},
		{"put, a number too large", threeTables(), deed(1, "d", 1, 1001), 4},
		{"put, a number too small", threeTables(), deed(1, "d", 1, -1001), 4},
		{"put, the outermost numbers of a row", threeTables(), deed(1, "d", 1000000000, -1000000000), 4},
		{"put, too short, and it is full", full, deed(1, "full", 7), 4},
		{"put, a number out of range, and it is full", full, deed(1, "full", 7, 1001), 4},
		{"put, full, ahead", full, deed(1, "full", -1, 0), 5},
		{"put, full, between", full, deed(1, "full", 7, 0), 5},
		{"put, full, behind", full, deed(1, "full", 59, 0), 5},
		{"cut, no table", threeTables(), deed(2, "a", 0), 1},
		{"cut, no table at all", nil, deed(2, "a", 0), 1},
		{"cut, no key", threeTables(), deed(2, "d", 1), 3},
		{"cut, a key of another table", threeTables(), deed(2, "d", 7), 3},
		{"cut, a number that is no key", threeTables(), deed(2, "d", 9), 3},
		{"cut, a key out of range", threeTables(), deed(2, "d", 1000000000), 3},
		{"cut, an empty table", []impl.Table{table("a", 1)}, deed(2, "a", 0), 3},
		{"set, no table", threeTables(), deed(3, "a", 0, 5), 1},
		{"set, no table, and a number out of range", nil, deed(3, "a", 1001), 1},
		{"set, no key", threeTables(), deed(3, "d", 1, 5), 3},
		{"set, no key, too short", threeTables(), deed(3, "d", 1), 3},
		{"set, no key, too long", threeTables(), deed(3, "d", 1, 1, 1), 3},
		{"set, no key, a number out of range", threeTables(), deed(3, "d", 1, 1001), 3},
		{"set, a key out of range", threeTables(), deed(3, "d", 1001, 1), 3},
		{"set, no key in a full one", full, deed(3, "full", 7, 1), 3},
		{"set, too short", threeTables(), deed(3, "d", 0), 4},
		{"set, too long", threeTables(), deed(3, "d", 0, 5, 5), 4},
		{"set, too long for Width 1", threeTables(), deed(3, "b", 7, 7), 4},
		{"set, a number too large", threeTables(), deed(3, "d", 0, 1001), 4},
		{"set, a number too small", threeTables(), deed(3, "d", 0, -1001), 4},
		{"set, too short in a full one", full, deed(3, "full", 8), 4},
		{"must, no table", threeTables(), deed(4, "a", 0), 1},
		{"must, no table at all", nil, deed(4, "a", 0), 1},
		{"must, no key", threeTables(), deed(4, "d", 1), 3},
		{"must, a number that is no key", threeTables(), deed(4, "d", 5), 3},
		{"must, a key out of range", threeTables(), deed(4, "d", -1000000000), 3},
		{"must, an empty table", []impl.Table{table("a", 1)}, deed(4, "a", 0), 3},
		{"make, there first", threeTables(), deed(5, "b", 1), 2},
		{"make, there between, another Width", threeTables(), deed(5, "d", 4), 2},
		{"make, there last", threeTables(), deed(5, "full", 2), 2},
		{"make, there, a Width out of range", threeTables(), deed(5, "d", 5), 2},
		{"make, there, a Width that is a key", threeTables(), deed(5, "d", 4), 2},
		{"make, there, no room", baseOfSize(4), deed(5, "a", 2), 2},
		{"make, there, no room, a Width out of range", baseOfSize(4), deed(5, "a", 0), 2},
		{"make, Width 0", threeTables(), deed(5, "t", 0), 4},
		{"make, Width 5", threeTables(), deed(5, "t", 5), 4},
		{"make, Width -1", nil, deed(5, "t", -1), 4},
		{"make, the greatest Width", nil, deed(5, "t", 1000000000), 4},
		{"make, no room, a Width out of range", baseOfSize(4), deed(5, "t", 5), 4},
		{"make, no room behind", baseOfSize(4), deed(5, "t", 1), 5},
		{"make, no room ahead", baseOfSize(4), deed(5, "aa", 4), 5},
		{"drop, no table", threeTables(), deed(6, "a"), 1},
		{"drop, no table at all", nil, deed(6, "a"), 1},
		{"drop, a name that begins one", threeTables(), deed(6, "ful"), 1},
		{"drop, a name one begins", threeTables(), deed(6, "bb"), 1},
	}
	for _, c := range cases {
		if got, code := impl.Does(c.base, c.deed); code != c.want || !sameBase(got, c.base) {
			t.Errorf("%s: Does(%v, %v) = %v, %d, want %d", c.name, c.base, c.deed, got, code, c.want)
		}
		if got, code := impl.Batched(c.base, []impl.Deed{c.deed}); code != c.want || !sameBase(got, c.base) {
			t.Errorf("%s: Batched(%v, %v) = %v, %d, want %d", c.name, c.base, c.deed, got, code, c.want)
		}
	}
}

// A deed that is not right is refused as that, ahead of whatever else would refuse it.
func TestWrongDeedsAreBad(t *testing.T) {
	for name, d := range wrongDeeds() {
		named := cloneDeed(d)
		if !slices.Contains(wrongNames(), d.Name) {
			named.Name = "full"
		}
		for _, base := range [][]impl.Table{nil, threeTables(), baseOfSize(4)} {
			for _, wrong := range []impl.Deed{d, named} {
				if got, code := impl.Does(base, wrong); code != impl.BtBad || !sameBase(got, base) {
					t.Errorf("%s: Does(%v, %v) = %v, %d", name, base, wrong, got, code)
				}
			}
		}
	}
}

func TestWhatIsNoBase(t *testing.T) {
	lists := [][]impl.Deed{nil, {deed(4, "a", 0)}, {deed(6, "b")}, {deed(5, "t", 1)}, {{}}, slices.Repeat([]impl.Deed{deed(6, "a")}, 9)}
	for name, b := range wrongBases() {
		for _, list := range lists {
			if got, code := impl.Batched(b, list); code != impl.BtBad || len(got) != 0 {
				t.Errorf("%s: Batched(%v) = %v, %d", name, list, got, code)
			}
		}
		for _, d := range rightDeeds() {
			if got, code := impl.Does(b, d.deed); code != impl.BtBad || len(got) != 0 {
				t.Errorf("%s: Does(%v) = %v, %d", name, d.deed, got, code)
			}
		}
		if got, code := impl.Does(b, impl.Deed{}); code != impl.BtBad || len(got) != 0 {
			t.Errorf("%s: Does of the zero Deed = %v, %d", name, got, code)
		}
		for _, x := range append(threeTables(), b...) {
			if got := impl.Differs(b, threeTables(), x.Name); len(got) != 0 {
				t.Errorf("%s: Differs(%q) from it = %v", name, x.Name, got)
			}
			if got := impl.Differs(threeTables(), b, x.Name); len(got) != 0 {
				t.Errorf("%s: Differs(%q) to it = %v", name, x.Name, got)
			}
			if got := impl.Differs(b, b, x.Name); len(got) != 0 {
				t.Errorf("%s: Differs(%q) from it to it = %v", name, x.Name, got)
			}
		}
	}
}

func TestBatched(t *testing.T) {
	cases := []struct {
		text string
		want []impl.Table
	}{
		{"", threeTables()[:2]},
		{"must b 7", threeTables()[:2]},
		{"make a 2;put a 1 5;put a 2 6;must a 1", []impl.Table{table("a", 2, []int64{1, 5}, []int64{2, 6}), threeTables()[0], threeTables()[1]}},
		{"cut d 0;put d 0 6", []impl.Table{threeTables()[0], table("d", 2, []int64{-3, 9}, []int64{0, 6}, []int64{4, 0})}},
		{"put b 8;cut b 8", threeTables()[:2]},
		{"put b 8;set b 8;must b 8;cut b 7", []impl.Table{table("b", 1, []int64{8}), threeTables()[1]}},
		{"set d 0 1;set d 0 2;set d 0 3", []impl.Table{threeTables()[0], table("d", 2, []int64{-3, 9}, []int64{0, 3}, []int64{4, 0})}},
		{"drop b;make b 3;put b 7 8 9", []impl.Table{table("b", 3, []int64{7, 8, 9}), threeTables()[1]}},
		{"drop b;drop d", nil},
		{"make x 1;drop x", threeTables()[:2]},
		{"make x 1;make c 1;drop b;make a 1", []impl.Table{table("a", 1), table("c", 1), threeTables()[1], table("x", 1)}},
		{"make z 1;make y 1;drop b;drop d;make x 1;make w 1", []impl.Table{table("w", 1), table("x", 1), table("y", 1), table("z", 1)}},
	}
	for _, c := range cases {
		if got, code := impl.Batched(threeTables()[:2], batch(t, c.text)); code != impl.BtDone || !sameBase(got, c.want) {
			t.Errorf("Batched(%q) = %v, %d, want %v", c.text, got, code, c.want)
		}
	}
	if got, code := impl.Batched(nil, nil); code != impl.BtDone || len(got) != 0 {
		t.Errorf("Batched of nothing = %v, %d", got, code)
	}
}

// Promise 6: where the first, one in the middle or the last deed is refused, nothing is done.
func TestBatchesThatAreRefusedDoNothing(t *testing.T) {
	base := threeTables()
	good := batch(t, "put d 1 1;cut b 7;set d 0 6;make c 3;put c 1 2 3;drop b;must d 4")
	refused := map[string]int64{
		"put t 1": 1, "put d -3 1": 2, "put d 2": 4, "put full 7 0": 5,
		"cut t 1": 1, "cut d 9": 3, "set t 1": 1, "set d 9 9": 3, "set d -3": 4,
		"must t 1": 1, "must d 9": 3, "make d 1": 2, "make t 5": 4, "drop t": 1,
	}
	if got, code := impl.Batched(base, good); code != impl.BtDone || sameBase(got, base) {
		t.Fatal("what is ahead of them is not done", got, code)
	}
	wrong := map[string]impl.Deed{"the zero Deed": {}, "put, no row": deed(1, "d"), "kind 7": deed(7, "d", 1), "drop, a wrong name": deed(6, "D")}
	codes := map[string]int64{}
	for text, code := range refused {
		wrong[text], codes[text] = batch(t, text)[0], code
	}
	for name, d := range wrong {
		want, right := codes[name]
		if !right {
			want = impl.BtBad
		}
		for at := range len(good) + 1 {
			list := slices.Insert(slices.Clone(good), at, d)
			if got, code := impl.Batched(base, list); code != want || !sameBase(got, base) {
				t.Errorf("%s at %d: Batched = %v, %d, want %d", name, at, got, code, want)
			}
		}
	}
}

// Of two that are refused the first one tells the code.
func TestTheFirstDeedThatIsRefusedTellsTheCode(t *testing.T) {
	texts := []string{"drop t", "put d -3 1", "cut d 9", "put d 2", "put full 7 0"}
	for i, one := range texts {
		for j, other := range texts {
			got, code := impl.Batched(threeTables(), batch(t, "cut b 7;"+one+";put b 1;"+other+";make t 1"))
			if want := int64(i + 1); code != want || !sameBase(got, threeTables()) {
				t.Errorf("%q and %q (%d): Batched = %v, %d, want %d", one, other, j, got, code, want)
			}
		}
		wrong := []impl.Deed{batch(t, one)[0], {}}
		if _, code := impl.Batched(threeTables(), wrong); code != int64(i+1) {
			t.Errorf("%q ahead of the zero Deed: %d", one, code)
		}
		slices.Reverse(wrong)
		if _, code := impl.Batched(threeTables(), wrong); code != impl.BtBad {
			t.Errorf("%q behind the zero Deed: %d", one, code)
		}
	}
	// What a deed ahead of it did is what the next one meets.
	for text, want := range map[string]int64{
		"put b 1;put b 1": 2, "cut b 7;cut b 7": 3, "cut b 7;must b 7": 3, "cut b 7;set b 7": 3, "drop b;put b 1": 1, "drop b;drop b": 1,
		"make t 1;make t 2": 2, "make t 1;put t 1 2": 4, "make t 1;make u 1": 5, "drop d;make d 1;must d 0": 3, "cut full 0;put full 0 0;put full 1 1": 5,
	} {
		if got, code := impl.Batched(threeTables(), batch(t, text)); code != want || !sameBase(got, threeTables()) {
			t.Errorf("Batched(%q) = %v, %d, want %d", text, got, code, want)
		}
	}
}

func TestBatchesUpToMaxBatch(t *testing.T) {
	for _, base := range [][]impl.Table{{table("a", 2)}, {table("a", 2), table("b", 1, []int64{5})}} {
		for size := range 20 {
			_, list := batchText(size)
			got, code := impl.Batched(base, list)
			if size <= 8 && (code != impl.BtDone || len(got) != len(base) || len(got[0].Rows) != size) {
				t.Errorf("a batch of %d: %v, %d", size, got, code)
			}
			if size > 8 && (code != impl.BtBad || !sameBase(got, base)) {
				t.Errorf("a batch of %d: %v, %d", size, got, code)
			}
		}
	}
	// Too many are refused as that, whatever is among them.
	many := slices.Repeat([]impl.Deed{deed(6, "t")}, 9)
	if got, code := impl.Batched(threeTables(), many); code != impl.BtBad || !sameBase(got, threeTables()) {
		t.Errorf("nine that are refused: %v, %d", got, code)
	}
	if got, code := impl.Batched(threeTables(), many[:8]); code != impl.BtNone || !sameBase(got, threeTables()) {
		t.Errorf("eight that are refused: %v, %d", got, code)
	}
}

// modelTable and modelBase tell the chapter's words in another way: what each name and key stands for.
type modelTable struct {
	width int
	rows  map[int64]string
}

type modelBase map[string]modelTable

func modelOf(b []impl.Table) modelBase {
	m := modelBase{}
	for _, t := range b {
		rows := map[int64]string{}
		for _, row := range t.Rows {
			rows[row[0]] = impl.ShowRow(row)
		}
		m[t.Name] = modelTable{int(t.Width), rows}
	}
	return m
}

func (m modelBase) text() string {
	text := ""
	for _, name := range slices.Sorted(maps.Keys(m)) {
		text += fmt.Sprint(name, m[name].width)
		for _, key := range slices.Sorted(maps.Keys(m[name].rows)) {
			text += "," + m[name].rows[key]
		}
		text += ";"
	}
	return text
}

// firstCode is the first one that applies, of those that the chapter names for the kind.
func (m modelBase) firstCode(d impl.Deed) int64 {
	if !impl.DeedOk(d) {
		return impl.BtBad
	}
	t, there := m[d.Name]
	keyed, fits, widthOk := false, len(d.Row) == t.width, false
	if len(d.Row) > 0 {
		_, keyed = t.rows[d.Row[0]]
		widthOk = d.Row[0] >= 1 && d.Row[0] <= 4
		fits = fits && slices.Min(d.Row) >= -1000 && slices.Max(d.Row) <= 1000
	}
	applies := map[int64][]struct {
		is   bool
		code int64
	}{
		1: {{!there, 1}, {keyed, 2}, {!fits, 4}, {len(t.rows) == 30, 5}},
		2: {{!there, 1}, {!keyed, 3}},
		3: {{!there, 1}, {!keyed, 3}, {!fits, 4}},
		4: {{!there, 1}, {!keyed, 3}},
		5: {{there, 2}, {!widthOk, 4}, {len(m) == 4, 5}},
		6: {{!there, 1}},
	}
	for _, one := range applies[d.Kind] {
		if one.is {
			return one.code
		}
	}
	return impl.BtDone
}

func (m modelBase) does(d impl.Deed) int64 {
	code := m.firstCode(d)
	if code != impl.BtDone {
		return code
	}
	switch d.Kind {
	case 1, 3:
		m[d.Name].rows[d.Row[0]] = impl.ShowRow(d.Row)
	case 2:
		delete(m[d.Name].rows, d.Row[0])
	case 5:
		m[d.Name] = modelTable{int(d.Row[0]), map[int64]string{}}
	case 6:
		delete(m, d.Name)
	}
	return impl.BtDone
}

func deedsOnSmallBases() []impl.Deed {
	return []impl.Deed{
		deed(1, "b", 1), deed(1, "b", 1, 2), deed(1, "d", 1, 2), deed(1, "d", 2, 2), deed(1, "d", 0), deed(1, "d", 1001, 1), deed(1, "full", 7, 7),
		deed(2, "b", 1), deed(2, "b", 7), deed(2, "d", 0), deed(2, "full", 8), deed(2, "t", 1),
		deed(3, "b", 7), deed(3, "b", 7, 7), deed(3, "d", 0, 77), deed(3, "d", 1, 78), deed(3, "full", 58, 79), deed(3, "t", 1),
		deed(4, "b", 7), deed(4, "d", 1), deed(4, "t", 1),
		deed(5, "b", 2), deed(5, "c", 1), deed(5, "t", 1), deed(5, "t", 5), deed(5, "a", 4),
		deed(6, "b"), deed(6, "d"), deed(6, "t"), deed(6, "full"),
		{}, deed(2, "b"), deed(6, "b", 7),
	}
}

// checkBatch holds a batch against the model, and against the same deeds done one after the other.
func checkBatch(t *testing.T, base []impl.Table, list []impl.Deed) {
	t.Helper()
	model, one := modelOf(base), base
	var want, code int64
	for _, d := range list {
		before := one
		one, code = impl.Does(one, d)
		if want = model.does(d); code != want || code != impl.BtDone && !sameBase(one, before) {
			t.Fatalf("%v of %v: Does(%v, %v) = %v, %d, want %d", d, list, before, d, one, code, want)
		}
		if want != impl.BtDone {
			break
		}
		if modelOf(one).text() != model.text() || !impl.BaseOk(one) {
			t.Fatalf("%v of %v: Does(%v, %v) = %v, want %v", d, list, before, d, one, model)
		}
	}
	if want != impl.BtDone {
		one = base
	}
	if got, code := impl.Batched(base, list); code != want || !sameBase(got, one) {
		t.Fatalf("Batched(%v, %v) = %v, %d, want %v, %d", base, list, got, code, one, want)
	}
}

// Promise 6, for all batches of up to three of some deeds: at once they come to what they come to one after the other, or to nothing.
func TestBatchesAreDoneWholeOrNothingIs(t *testing.T) {
	deeds := deedsOnSmallBases()
	for _, base := range [][]impl.Table{nil, threeTables()[:2]} {
		checkBatch(t, base, nil)
		for _, first := range deeds {
			checkBatch(t, base, []impl.Deed{first})
			for _, second := range deeds {
				checkBatch(t, base, []impl.Deed{first, second})
				for _, third := range deeds {
					checkBatch(t, base, []impl.Deed{first, second, third})
				}
			}
		}
	}
	for _, base := range [][]impl.Table{threeTables(), baseOfSize(4), baseOfSize(3)} {
		for _, first := range deeds {
			for _, second := range deeds {
				checkBatch(t, base, []impl.Deed{first, second})
			}
		}
	}
}

// batchFor is of deeds that mostly can be done one after the other: few batches of whatever deeds are done whole.
func batchFor(base []impl.Table, next func(int) int) []impl.Deed {
	deeds, model, list := deedsOnSmallBases(), modelOf(base), []impl.Deed{}
	for range next(9) {
		d := deeds[next(len(deeds))]
		for range next(200) {
			if model.firstCode(d) == impl.BtDone {
				break
			}
			d = deeds[next(len(deeds))]
		}
		model.does(d)
		list = append(list, d)
	}
	return list
}

// numbersFrom tells numbers less than those it is asked for, without order, but the same ones each time.
func numbersFrom(state uint32) func(int) int {
	return func(n int) int {
		state = state*1664525 + 1013904223
		return int(state>>16) % n
	}
}

// Long batches, one after the other, each on what came of the last one.
func TestManyBatchesInARow(t *testing.T) {
	base, done, refused := []impl.Table{}, 0, 0
	next := numbersFrom(1)
	for range 6000 {
		list := batchFor(base, next)
		checkBatch(t, base, list)
		after, code := impl.Batched(base, list)
		if code != impl.BtDone {
			refused++
		} else if len(list) > 1 {
			done++
		}
		base = after
	}
	if done < 1000 || refused < 1000 {
		t.Fatal(done, refused)
	}
}

func TestDiffers(t *testing.T) {
	from := threeTables()
	to := []impl.Table{
		table("a", 1, []int64{5}),
		table("d", 2, []int64{-3, 9}, []int64{0, 6}, []int64{5, 0}),
		table("full", 1, []int64{0}, []int64{2}),
	}
	cases := []struct {
		name     string
		from, to []impl.Table
		table    string
		want     string
	}{
		{"in the first alone", from, to, "b", "7x-1"},
		{"in the other alone", from, to, "a", "5"},
		{"in both", from, to, "d", "0 5x-1;0 6;4 0x-1;5 0"},
		{"in both, the other way", to, from, "d", "0 5;0 6x-1;4 0;5 0x-1"},
		{"in none", from, to, "t", ""},
		{"a name that begins one", from, to, "ful", ""},
		{"no name", from, to, "", ""},
		{"what is no name", from, to, "D", ""},
		{"with none at all", from, nil, "d", "-3 9x-1;0 5x-1;4 0x-1"},
		{"from none at all", nil, from, "d", "-3 9;0 5;4 0"},
		{"none from none", nil, nil, "d", ""},
		{"an empty one from none", nil, []impl.Table{table("d", 2)}, "d", ""},
		{"none from an empty one", []impl.Table{table("d", 2)}, nil, "d", ""},
		{"of another Width", []impl.Table{table("d", 1, []int64{0}, []int64{1})}, from, "d", "-3 9;0x-1;0 5;1x-1;4 0"},
	}
	for _, c := range cases {
		if got := impl.ShowBag(impl.Differs(c.from, c.to, c.table)); got != c.want {
			t.Errorf("%s: Differs(%q) = %q, want %q", c.name, c.table, got, c.want)
		}
	}
	for name, b := range rightBases() {
		for _, x := range append(threeTables(), b...) {
			if got := impl.Differs(b, b, x.Name); len(got) != 0 {
				t.Errorf("%s: Differs(%q) with itself = %v", name, x.Name, got)
			}
		}
	}
}

// What differs, Plus the bag that was, is the bag that is.
func TestDiffersComesThere(t *testing.T) {
	bagOf := func(b []impl.Table, name string) []impl.Count {
		x, _ := impl.TableIn(b, name)
		return impl.BagIn(x, -1001, 1000)
	}
	for _, from := range rightBases() {
		for _, to := range rightBases() {
			for _, x := range slices.Concat(from, to, []impl.Table{table("none", 1)}) {
				change := impl.Differs(from, to, x.Name)
				if got := impl.Plus(bagOf(from, x.Name), change); !sameBag(got, bagOf(to, x.Name)) {
					t.Fatalf("from %v to %v, %q: %v", from, to, x.Name, change)
				}
			}
		}
	}
	// Two full tables of which no row is in both.
	other := table("full", 2)
	for i := range int64(30) {
		other.Rows = append(other.Rows, []int64{2*i + 1, i})
	}
	change := impl.Differs(threeTables(), []impl.Table{other}, "full")
	if len(change) != 60 || !slices.IsSortedFunc(change, func(a, b impl.Count) int { return cmp.Compare(a.Row[0], b.Row[0]) }) {
		t.Fatal(change)
	}
}

// roomyBase is the first size of these tables, with spare room behind it, behind the rows and behind each, and all its memory as a text.
func roomyBase(size int, tables ...impl.Table) ([]impl.Table, func() string) {
	whole := make([]impl.Table, 0, len(tables)+2)
	memories := []func() string{}
	for _, x := range tables {
		spare := append(slices.Clone(x.Rows), []int64{999, 998})
		roomy, memory := roomyTable(len(x.Rows), spare...)
		roomy.Name, roomy.Width = x.Name, x.Width
		whole, memories = append(whole, roomy), append(memories, memory)
	}
	return whole[:size], func() string {
		text := ""
		for _, x := range whole[:cap(whole)] {
			text += fmt.Sprintf("%q %d %v;", x.Name, x.Width, x.Rows)
		}
		for _, memory := range memories {
			text += memory()
		}
		return text
	}
}

// overwriteBase writes into each table and its rows, and into the spare room behind all of them.
func overwriteBase(b []impl.Table) {
	b = b[:cap(b)]
	for i := range b {
		overwriteTable(b[i])
		b[i] = table("over", -96, []int64{-95})
	}
}

// eachRow goes through all rows of a base, those in spare room too, each with a number of its own.
func eachRow(b []impl.Table, look func(rows [][]int64, at int, mark int64)) {
	mark := int64(0)
	for _, x := range b[:cap(b)] {
		rows := x.Rows[:cap(x.Rows)]
		for at := range rows {
			mark++
			look(rows, at, mark)
		}
	}
}

// checkTablesApart sees to it that no two lists of one answer share memory, nor the spare room behind them: what is written into each one, all of it, is there when all are written. It leaves nothing of the answer.
func checkTablesApart(t *testing.T, b []impl.Table) {
	t.Helper()
	eachRow(b, func(rows [][]int64, at int, mark int64) {
		row := rows[at][:cap(rows[at])]
		for i := range row {
			row[i] = mark
		}
	})
	check := func(rows [][]int64, at int, mark int64) {
		for _, n := range rows[at][:cap(rows[at])] {
			if n != mark {
				t.Fatalf("lists of one answer share memory: %v", b)
			}
		}
	}
	eachRow(b, check)
	eachRow(b, func(rows [][]int64, at int, mark int64) { rows[at] = []int64{mark} })
	eachRow(b, check)
}

// checkBaseNew sees to it that the base that is answered shares nothing with the arguments, of which memory tells, nor with another answer, nor within itself.
func checkBaseNew(t *testing.T, name string, memory func() string, answer func() []impl.Table) {
	t.Helper()
	was := memory()
	one := answer()
	want := cloneBase(one)
	other := answer()
	if memory() != was {
		t.Fatalf("%s writes into an argument", name)
	}
	overwriteBase(one)
	if memory() != was {
		t.Fatalf("%s shares memory with an argument", name)
	}
	if !sameBase(other, want) {
		t.Fatalf("two answers of %s share memory", name)
	}
	checkTablesApart(t, other)
}

// roomyBatch has spare room behind the deeds and behind each row, and tells all of it as a text.
func roomyBatch(list []impl.Deed) ([]impl.Deed, func() string) {
	whole := make([]impl.Deed, 0, len(list)+2)
	for _, d := range list {
		row := append(make([]int64, 0, len(d.Row)+3), d.Row...)
		copy(row[len(row):cap(row)], []int64{81, 82, 83})
		whole = append(whole, impl.Deed{Kind: d.Kind, Name: d.Name, Row: row})
	}
	return whole, func() string {
		text := ""
		for _, d := range whole[:cap(whole)] {
			text += fmt.Sprintf("%d %q %d %v;", d.Kind, d.Name, len(d.Row), d.Row[:cap(d.Row)])
		}
		return text
	}
}

// Promise 21, as far as the base goes: of what is done and of what is refused.
func TestBasesStayAndAnswersAreNew(t *testing.T) {
	for _, d := range deedsOnSmallBases() {
		for _, ahead := range []string{"", "must b 7", "put d 9 9", "cut d 0;set d 4 4;put b 8", "drop d;make d 2;put d 0 1"} {
			base, baseMemory := roomyBase(2, threeTables()...)
			list, listMemory := roomyBatch(append(batch(t, ahead), d))
			memory := func() string { return baseMemory() + listMemory() }
			checkBaseNew(t, fmt.Sprintf("Does %v", d), memory, func() []impl.Table {
				after, _ := impl.Does(base, list[len(list)-1])
				return after
			})
			checkBaseNew(t, fmt.Sprintf("Batched %q and %v", ahead, d), memory, func() []impl.Table {
				after, _ := impl.Batched(base, list)
				return after
			})
		}
	}
}

func TestBasesOfOtherBatchesAreNew(t *testing.T) {
	lists := map[string][]impl.Deed{
		"an empty batch": nil,
		"too many":       slices.Repeat([]impl.Deed{deed(4, "b", 7)}, 9),
		"all of them":    batch(t, "put d 1 1;cut b 7;set d 0 6;make c 3;put c 1 2 3;drop b;must d 4;set full 58 7"),
		"one row twice":  {deed(5, "a", 1), deed(1, "a", 1), deed(1, "b", 1)},
	}
	for name, list := range lists {
		for _, size := range []int{0, 1, 2, 3} {
			base, baseMemory := roomyBase(size, threeTables()...)
			list, listMemory := roomyBatch(list)
			memory := func() string { return baseMemory() + listMemory() }
			checkBaseNew(t, name, memory, func() []impl.Table {
				after, _ := impl.Batched(base, list)
				return after
			})
		}
	}
}

func TestTableInAndDiffersAreNew(t *testing.T) {
	from, fromMemory := roomyBase(2, threeTables()...)
	to, toMemory := roomyBase(2, table("d", 2, []int64{0, 6}, []int64{4, 0}), table("full", 2, []int64{1, 1}), table("g", 1))
	wrong, wrongMemory := roomyBase(3, table("d", 2, []int64{5, 6}, []int64{4, 0}), table("d", 2), table("b", 9))
	memory := func() string { return fromMemory() + toMemory() + wrongMemory() }
	was := memory()
	for _, name := range []string{"", "a", "b", "d", "full", "g"} {
		for _, base := range [][]impl.Table{from, to, wrong} {
			checkTableNew(t, "TableIn "+name, memory, func() impl.Table {
				x, _ := impl.TableIn(base, name)
				return x
			})
			checkAnswersNew(t, "Differs of "+name, memory, func() []impl.Count { return impl.Differs(from, base, name) })
			checkAnswersNew(t, "Differs of "+name, memory, func() []impl.Count { return impl.Differs(base, to, name) })
			checkAnswersNew(t, "Differs of "+name+" with itself", memory, func() []impl.Count { return impl.Differs(base, base, name) })
			impl.BaseOk(base)
		}
	}
	checkBaseNew(t, "Batched of what is no base", memory, func() []impl.Table {
		after, _ := impl.Batched(wrong, []impl.Deed{deed(4, "d", 5)})
		return after
	})
	if memory() != was {
		t.Fatal("an argument was written into")
	}
}

// The tables of an argument may share memory with each other, and with the row of a deed.
func TestBasesOfRowsInOneMemory(t *testing.T) {
	cells := []int64{1, 2, 3, 4, 5}
	rows := [][]int64{cells[:2], cells[1:3]}
	base := []impl.Table{table("a", 2, rows...), table("b", 2, rows...)}
	lists := [][]impl.Deed{
		nil, {deed(1, "a", cells[2:4]...), deed(1, "b", cells[2:4]...)}, {deed(3, "a", cells[:2]...)}, {deed(2, "a", cells[1])},
		{deed(1, "a", cells[2:4]...), deed(6, "t")}, {deed(5, "c", 2), deed(1, "c", cells[:2]...), deed(1, "c", cells[1:3]...)},
	}
	was := slices.Clone(cells)
	for _, list := range lists {
		got, _ := impl.Batched(base, list)
		checkTablesApart(t, got)
		overwriteBase(got)
		if !slices.Equal(cells, was) || len(rows) != 2 || &rows[0][0] != &cells[0] || &rows[1][0] != &cells[1] {
			t.Fatalf("%v: an answer shares memory with an argument: %v", list, cells)
		}
	}
}

func TestTheBaseAnswersAtEveryArgument(t *testing.T) {
	numbers := []int64{math.MinInt64, -1, 0, 1, 2, math.MaxInt64}
	names := []string{"", "a", "b", "A", strings.Repeat("a", 1000)}
	bases := slices.Concat(slices.Collect(maps.Values(wrongBases())), slices.Collect(maps.Values(rightBases())))
	for _, base := range bases {
		right := impl.BaseOk(base)
		for _, kind := range append(numbers, 3, 4, 5, 6, 7) {
			for _, name := range names {
				for _, row := range [][]int64{nil, {0}, {math.MinInt64}, {math.MaxInt64, 1}, make([]int64, 1000)} {
					d := deed(kind, name, row...)
					got, code := impl.Does(base, d)
					if !right && (len(got) != 0 || code != impl.BtBad) || right && (!impl.BaseOk(got) || !impl.DeedOk(d) && code != impl.BtBad) {
						t.Fatalf("Does(%v, %v) = %v, %d", base, d, got, code)
					}
				}
			}
		}
	}
}
