package tests

import (
	"fmt"
	"math"
	"slices"
	"testing"

	"loop.example/g00604/impl"
)

// widthsOfNoRow are not from 1 to MaxWidth.
func widthsOfNoRow() []int64 {
	return []int64{0, 7, -1, 8, -2, -6, 100, 1<<32 + 2, 1<<8 + 2, -1 << 32, math.MaxInt64, math.MaxInt64 - 6, math.MinInt64, math.MinInt64 + 6}
}

type stepCase struct {
	node impl.Node
	one  int64
	two  int64
	want int64
}

func checkSteps(t *testing.T, cases []stepCase) {
	t.Helper()
	for _, c := range cases {
		if got := impl.StepWidth(c.node, c.one, c.two); got != c.want {
			t.Errorf("StepWidth(%v, %d, %d) = %d, want %d", c.node, c.one, c.two, got, c.want)
		}
	}
}

func TestStepWidthOfWhere(t *testing.T) {
	checkSteps(t, []stepCase{
		{whereNode(), 1, 0, 1},
		{whereNode(), 6, 0, 6},
		{whereNode(toNumber(0, 2, 5)), 1, 0, 1},
		{whereNode(toNumber(1, 2, 5)), 1, 0, -1},
		{whereNode(toNumber(1, 2, 5)), 2, 0, 2},
		{whereNode(toNumber(2, 2, 5)), 2, 0, -1},
		{whereNode(toNumber(5, 2, 5)), 5, 0, -1},
		{whereNode(toNumber(5, 2, 5)), 6, 0, 6},
		{whereNode(toNumber(0, 1, 1000)), 1, 0, 1},
		{whereNode(toNumber(0, 3, -1000)), 1, 0, 1},
		{whereNode(toPlace(0, 3, 2)), 3, 0, 3},
		{whereNode(toPlace(0, 3, 3)), 3, 0, -1},
		{whereNode(toPlace(3, 3, 0)), 3, 0, -1},
		{whereNode(toPlace(2, 1, 2)), 3, 0, 3},
		{whereNode(toNumber(0, 2, 1), toNumber(1, 2, 1), toNumber(2, 2, 1)), 3, 0, 3},
		{whereNode(toNumber(0, 2, 1), toNumber(1, 2, 1), toNumber(3, 2, 1)), 3, 0, -1},
		{whereNode(toNumber(3, 2, 1), toNumber(1, 2, 1), toNumber(0, 2, 1)), 3, 0, -1},
		{whereNode(toNumber(0, 2, 1), toPlace(0, 2, 3), toNumber(2, 2, 1)), 3, 0, -1},
	})
}

func TestStepWidthOfKeep(t *testing.T) {
	checkSteps(t, []stepCase{
		{node(3, 0), 1, 0, 1},
		{node(3, 1), 1, 0, -1},
		{node(3, 2), 3, 0, 1},
		{node(3, 3), 3, 0, -1},
		{node(3, 5), 6, 0, 1},
		{node(3, 5), 5, 0, -1},
		{node(3, 1, 0), 2, 0, 2},
		{node(3, 1, 1, 0), 2, 0, 3},
		{node(3, 0, 0, 0, 0, 0, 0), 1, 0, 6},
		{node(3, 0, 0, 0, 0, 0, 1), 1, 0, -1},
		{node(3, 1, 0, 0, 0, 0, 0), 1, 0, -1},
		{node(3, 0, 0, 1, 0, 0, 0), 1, 0, -1},
		{node(3, 5, 4, 3, 2, 1, 0), 6, 0, 6},
		{node(3, 0, 1, 2, 3, 4, 5), 5, 0, -1},
	})
}

func TestStepWidthOfJoin(t *testing.T) {
	checkSteps(t, []stepCase{
		{node(4, 0, 0), 1, 1, 2},
		{node(4, 0, 0), 3, 2, 5},
		{node(4, 2, 1), 3, 2, 5},
		{node(4, 1, 2), 3, 2, -1},
		{node(4, 3, 1), 3, 2, -1},
		{node(4, 2, 2), 3, 2, -1},
		{node(4, 1, 2), 2, 3, 5},
		{node(4, 2, 1), 2, 3, -1},
		{node(4, 1, 3), 2, 3, -1},
		// just MaxWidth, and one more
		{node(4, 0, 0), 3, 3, 6},
		{node(4, 0, 0), 4, 3, -1},
		{node(4, 0, 0), 3, 4, -1},
		{node(4, 4, 0), 5, 1, 6},
		{node(4, 0, 4), 1, 5, 6},
		{node(4, 4, 1), 5, 2, -1},
		{node(4, 1, 4), 2, 5, -1},
		{node(4, 5, 0), 6, 1, -1},
		{node(4, 0, 5), 1, 6, -1},
		{node(4, 5, 5), 6, 6, -1},
	})
}

func TestStepWidthOfBothAndOnce(t *testing.T) {
	for one := int64(1); one <= 6; one++ {
		for two := int64(1); two <= 6; two++ {
			want := int64(-1)
			if two == one {
				want = one
			}
			checkSteps(t, []stepCase{{node(5), one, two, want}, {node(6), one, two, one}})
		}
	}
}

func TestStepWidthOfGroup(t *testing.T) {
	checkSteps(t, []stepCase{
		{groupNode(-1), 1, 0, 1},
		{groupNode(-1), 6, 0, 1},
		{groupNode(0), 1, 0, 2},
		{groupNode(0), 6, 0, 2},
		{groupNode(1), 1, 0, -1},
		{groupNode(2), 3, 0, 2},
		{groupNode(3), 3, 0, -1},
		{groupNode(5), 6, 0, 2},
		{groupNode(5), 5, 0, -1},
		{groupNode(-1, 0), 1, 0, 2},
		{groupNode(-1, 1), 1, 0, -1},
		{groupNode(-1, 2), 3, 0, 2},
		{groupNode(-1, 3), 3, 0, -1},
		{groupNode(-1, 2, 0, 2), 3, 0, 4},
		{groupNode(-1, 2, 0, 3), 3, 0, -1},
		{groupNode(-1, 3, 0, 2), 3, 0, -1},
		{groupNode(2, 2, 0, 1), 3, 0, 5},
		{groupNode(3, 2, 0, 1), 3, 0, -1},
		{groupNode(2, 2, 3, 1), 3, 0, -1},
		{groupNode(0, 0, 0, 0), 1, 0, 5},
		{groupNode(5, 5, 5, 5), 6, 0, 5},
		{groupNode(5, 5, 5, 5), 5, 0, -1},
	})
}

func TestStepWidthOfTable(t *testing.T) {
	for _, name := range []string{"a", "abcxyz", "table"} {
		for _, one := range append(widthsOfNoRow(), 1, 2, 6) {
			for _, two := range append(widthsOfNoRow(), 1, 2, 6) {
				checkSteps(t, []stepCase{{tableNode(name), one, two, -1}})
			}
		}
	}
}

// stepRow makes of a row, and of another one, what a right node makes of them, number by number; false where it looks at a number that there is not.
func stepRow(n impl.Node, one []int64, two []int64) ([]int64, bool) {
	made, is := []int64{}, true
	add := func(place int64) {
		number, there := numberAt(one, place, false)
		made, is = append(made, number), is && there
	}
	switch n.Kind {
	case 2:
		for _, c := range n.Conds {
			_, there := numberAt(one, c.Place, false)
			_, too := numberAt(one, c.Other, c.Is)
			is = is && there && too
		}
		return one, is
	case 3, 7:
		for _, place := range n.Places {
			add(place)
		}
		if n.Kind == 7 {
			made = append(made, 1)
		}
		if n.Place != -1 {
			add(n.Place)
		}
		return made, is
	case 4:
		_, there := numberAt(one, n.Places[0], false)
		_, too := numberAt(two, n.Places[1], false)
		return slices.Concat(one, two), there && too
	case 5:
		return one, len(one) == len(two)
	case 6:
		return one, true
	}
	return nil, false
}

func rowOfWidth(width int64) []int64 {
	return []int64{0, 10, 20, 30, 40, 50}[:width]
}

// widthByRows asks a right node what it makes of rows that are that wide.
func widthByRows(n impl.Node, one int64, two int64) int64 {
	if one < 1 || one > 6 {
		return -1
	}
	other := []int64{}
	if looksAt(n.Kind) == 2 {
		if two < 1 || two > 6 {
			return -1
		}
		other = rowOfWidth(two)
	}
	made, is := stepRow(n, rowOfWidth(one), other)
	if !is || len(made) > 6 {
		return -1
	}
	return int64(len(made))
}

// placeLists has all lists of that many places.
func placeLists(size int) [][]int64 {
	if size == 0 {
		return [][]int64{nil}
	}
	var lists [][]int64
	for _, list := range placeLists(size - 1) {
		for place := range int64(6) {
			lists = append(lists, append(slices.Clone(list), place))
		}
	}
	return lists
}

// nodesByPlaces are right nodes of all kinds, with most of the places that one may have.
func nodesByPlaces() []impl.Node {
	nodes := []impl.Node{tableNode("a"), node(5), node(6)}
	for size := range 4 {
		for _, places := range placeLists(size) {
			for place := int64(-1); place < 6; place++ {
				nodes = append(nodes, groupNode(place, places...))
			}
			if size > 0 {
				nodes = append(nodes, node(3, places...), node(3, append(slices.Repeat([]int64{1}, 6-size), places...)...))
			}
			if size == 2 {
				nodes = append(nodes, node(4, places...))
			}
		}
	}
	for place := range int64(6) {
		nodes = append(nodes, whereNode(toNumber(place, 1, 1000)), whereNode(toNumber(0, 2, 1), toNumber(place, 2, 1)))
		for other := range int64(6) {
			nodes = append(nodes, whereNode(toPlace(place, 2, other)), whereNode(toPlace(0, 2, 0), toNumber(place, 3, 1), toPlace(0, 1, other)))
		}
	}
	for _, c := range rightNodes() {
		nodes = append(nodes, c.node)
	}
	return nodes
}

// Promise 9, node by node: as many numbers as there are in the row that is made.
func TestStepWidthIsThatOfTheRowsMade(t *testing.T) {
	widths := append(widthsOfNoRow(), 1, 2, 3, 4, 5, 6)
	seen := map[int64]int{}
	for _, n := range nodesByPlaces() {
		for _, one := range widths {
			for _, two := range widths {
				want := int64(-1)
				if n.Kind != 1 {
					want = widthByRows(n, one, two)
				}
				if got := impl.StepWidth(n, one, two); got != want {
					t.Fatalf("StepWidth(%v, %d, %d) = %d, want %d", n, one, two, got, want)
				}
				seen[want]++
			}
		}
	}
	for want := int64(1); want <= 6; want++ {
		if seen[want] == 0 {
			t.Errorf("no node is %d wide", want)
		}
	}
}

// What two is matters to no node that looks at one alone.
func TestTwoIsOfNoMatterWhereOneIsLookedAt(t *testing.T) {
	steps := []stepCase{
		{whereNode(toNumber(1, 2, 5)), 2, 0, 2},
		{whereNode(), 6, 0, 6},
		{node(3, 1, 0, 1), 2, 0, 3},
		{node(6), 4, 0, 4},
		{groupNode(1, 0), 2, 0, 3},
		{whereNode(toNumber(2, 2, 5)), 2, 0, -1},
		{node(3, 2), 2, 0, -1},
		{node(6), 7, 0, -1},
		{groupNode(2, 0), 2, 0, -1},
	}
	for _, c := range steps {
		for _, two := range append(widthsOfNoRow(), 1, 2, 3, 4, 5, 6) {
			checkSteps(t, []stepCase{{c.node, c.one, two, c.want}})
		}
	}
}

// Of each kind a node that finds all that it looks at in rows of any width.
func TestWidthsOfNoRowAreRefused(t *testing.T) {
	nodes := []impl.Node{whereNode(), whereNode(toNumber(0, 2, 1)), node(3, 0), node(4, 0, 0), node(5), node(6), groupNode(-1), groupNode(0, 0)}
	for _, n := range nodes {
		for _, wrong := range widthsOfNoRow() {
			checkSteps(t, []stepCase{{n, wrong, 1, -1}, {n, wrong, wrong, -1}, {n, wrong, 7 - wrong, -1}, {n, wrong, -wrong, -1}})
			if looksAt(n.Kind) == 2 {
				checkSteps(t, []stepCase{{n, 1, wrong, -1}, {n, 6, wrong, -1}, {n, 6, 7 - wrong, -1}})
			}
		}
		if got := impl.StepWidth(n, 1, 1); got < 1 {
			t.Errorf("StepWidth(%v, 1, 1) = %d", n, got)
		}
		if got := impl.StepWidth(n, 6, 6); (got < 1) != (n.Kind == 4) {
			t.Errorf("StepWidth(%v, 6, 6) = %d", n, got)
		}
	}
}

func TestStepWidthOfWrongNodes(t *testing.T) {
	for name, n := range wrongNodes() {
		for _, one := range []int64{0, 1, 3, 6, 7} {
			for _, two := range []int64{0, 1, 3, 6, 7} {
				if got := impl.StepWidth(n, one, two); got != -1 {
					t.Errorf("%s: StepWidth(%v, %d, %d) = %d", name, n, one, two, got)
				}
			}
		}
	}
	for _, n := range allNodes() {
		if isRightNode(n) {
			continue
		}
		if one, two := impl.StepWidth(n, 6, 6), impl.StepWidth(n, 3, 2); one != -1 || two != -1 {
			t.Fatalf("StepWidth(%v) = %d and %d", n, one, two)
		}
	}
}

// unlikeTables have each another width.
func unlikeTables() []impl.Table {
	return []impl.Table{table("a", 1, []int64{5}), table("b", 2, []int64{5, 1}, []int64{6, 1}), table("c", 3), table("d", 4, []int64{1, 2, 3, 4})}
}

func readView(t *testing.T, text string) []impl.Node {
	t.Helper()
	v, is := impl.ReadView(text)
	if !is {
		t.Fatalf("%q is no view", text)
	}
	return v
}

func TestWidthOf(t *testing.T) {
	cases := map[string]int64{
		"table a":                                           1,
		"table b":                                           2,
		"table c":                                           3,
		"table d":                                           4,
		"table d; where $3=1":                               4,
		"table c; where $3=1":                               -1,
		"table c; where -":                                  3,
		"table d; where $0<$3":                              4,
		"table c; where $0<$3":                              -1,
		"table c; keep 2":                                   1,
		"table c; keep 3":                                   -1,
		"table b; keep 1 0 1 0 1 0":                         6,
		"table b; keep 1 0 1 0 1 2":                         -1,
		"table a; table b; join 0 1":                        3,
		"table b; table a; join 1 0":                        3,
		"table a; table b; join 1 0":                        -1,
		"table b; table a; join 0 1":                        -1,
		"table b; table d; join 1 3":                        6,
		"table d; table b; join 3 1":                        6,
		"table d; table b; join 1 3":                        -1,
		"table c; table c; join 2 2":                        6,
		"table c; table d; join 0 0":                        -1,
		"table d; table c; join 0 0":                        -1,
		"table d; table d; join 0 0":                        -1,
		"table b; table b; both":                            2,
		"table b; table c; both":                            -1,
		"table c; table b; both":                            -1,
		"table c; keep 0 1; table b; both":                  2,
		"table b; table c; keep 0 1; both":                  2,
		"table c; once":                                     3,
		"table d; group":                                    1,
		"table d; group sum 3":                              2,
		"table c; group sum 3":                              -1,
		"table d; group 3 3 3 sum 3":                        5,
		"table c; group 2 3":                                -1,
		"table d; group 3 2":                                3,
		"table d; group 0 1 2 sum 3; keep 4":                1,
		"table d; group 0 1 2 sum 3; keep 5":                -1,
		"table d; table b; join 0 0; keep 5":                1,
		"table d; table b; join 0 0; once":                  6,
		"table a; table a; both; keep 0 0":                  2,
		"table a; table b; once; join 0 1":                  3,
		"table a; once; table b; join 0 1":                  3,
		"table a; group; group; group":                      1,
		"table b; table c; group; join 1 0":                 3,
		"table b; group; table c; join 0 2":                 4,
		"table a; table a; group; both; once":               1,
		"table b; table a; group; both; once":               -1,
		"table b; table b; table b; both; both; keep 1 1 1": 3,
		"table a; table b; table c; join 0 0; join 0 0":     6,
		"table a; table b; join 0 0; table c; join 0 0":     6,
		"table a; table b; table c; join 1 2; join 0 4":     6,
		"table a; table b; table c; join 1 2; join 1 4":     -1,
		"table a; table b; table c; join 1 2; join 0 5":     -1,
		"table b; table a; join 1 0; table c; join 2 2":     6,
		"table b; table a; join 1 0; table c; join 3 2":     -1,
	}
	for text, want := range cases {
		if got := impl.WidthOf(unlikeTables(), readView(t, text)); got != want {
			t.Errorf("WidthOf(%q) = %d, want %d", text, got, want)
		}
	}
}

// Behind a node of no width the next ones would do for rows of any width.
func TestOneNodeInTheMidstHasNoWidth(t *testing.T) {
	without := []string{"table c; keep 3", "table c; where $3=1", "table c; where $0=$3", "table x", "table c; table d; join 0 0", "table c; table a; join 2 1", "table b; table c; both", "table c; group 3", "table c; group sum 3", "table x; once", "table x; group"}
	behind := []string{"", "; once", "; group", "; keep 0", "; where -", "; table a; group; both", "; table a; join 0 0", "; table a; join 0 0; group; once", "; group; group; keep 0; group"}
	for _, one := range without {
		for _, other := range behind {
			v := readView(t, one+other)
			if got := impl.WidthOf(unlikeTables(), v); got != -1 {
				t.Errorf("WidthOf(%q) = %d", one+other, got)
			}
		}
		for _, both := range []string{"; both", "; join 0 0", "; group; join 0 0", "; group; both"} {
			v := readView(t, "table a; "+one+both)
			if got := impl.WidthOf(unlikeTables(), v); got != -1 {
				t.Errorf("WidthOf(%q) = %d", "table a; "+one+both, got)
			}
		}
	}
}

func TestWidthOfByTheBase(t *testing.T) {
	for name, b := range rightBases() {
		for _, x := range b {
			for _, text := range []string{"table %s", "table %s; once", "table %s; where $0=1", "table %[1]s; table %[1]s; both"} {
				v := readView(t, fmt.Sprintf(text, x.Name))
				if got := impl.WidthOf(b, v); got != x.Width {
					t.Errorf("%s: WidthOf(%q) = %d, want %d", name, impl.ShowView(v), got, x.Width)
				}
			}
		}
		for _, none := range []string{"q", "bb", "fulll", "ful", "zzz"} {
			for _, text := range []string{"table %s", "table %s; once", "table %s; group", "table %[1]s; table %[1]s; both"} {
				v := readView(t, fmt.Sprintf(text, none))
				if got := impl.WidthOf(b, v); got != -1 {
					t.Errorf("%s: WidthOf(%q) = %d", name, impl.ShowView(v), got)
				}
			}
		}
	}
}

func TestWidthOfWhatIsNotRight(t *testing.T) {
	for name, b := range wrongBases() {
		texts := []string{"table a", "table b", "table x; group", "table c; once"}
		for _, x := range b {
			if impl.NodeOk(tableNode(x.Name)) {
				texts = append(texts, "table "+x.Name, "table "+x.Name+"; group")
			}
		}
		for _, text := range texts {
			if got := impl.WidthOf(b, readView(t, text)); got != -1 {
				t.Errorf("%s: WidthOf(%q) = %d", name, text, got)
			}
		}
	}
	b := unlikeTables()
	for name, v := range wrongOrders() {
		if got := impl.WidthOf(b, v); got != -1 {
			t.Errorf("%s: WidthOf is %d", name, got)
		}
	}
	for name, n := range wrongNodes() {
		for _, v := range viewsOf(n) {
			if got := impl.WidthOf(b, v); got != -1 {
				t.Errorf("%s: WidthOf(%v) = %d", name, v, got)
			}
		}
	}
}

// lastRow is what the last node makes of the tables' rows, and the nodes ahead of all that it looks at: told from the end on.
func lastRow(b []impl.Table, v []impl.Node) ([]int64, []impl.Node, bool) {
	n, left := v[len(v)-1], v[:len(v)-1]
	if n.Kind == 1 {
		for _, x := range b {
			if x.Name == n.Name {
				return rowOfWidth(x.Width), left, true
			}
		}
		return nil, left, false
	}
	two, twoIs := []int64{}, true
	if looksAt(n.Kind) == 2 {
		two, left, twoIs = lastRow(b, left)
	}
	one, left, oneIs := lastRow(b, left)
	if !oneIs || !twoIs {
		return nil, left, false
	}
	made, is := stepRow(n, one, two)
	return made, left, is && len(made) <= 6
}

// nodesForViews have each kind, and places that some rows have and others do not.
func nodesForViews() []impl.Node {
	return []impl.Node{
		tableNode("a"), tableNode("b"), tableNode("d"), tableNode("x"),
		whereNode(toNumber(1, 2, 1)), whereNode(toPlace(0, 1, 3)), node(3, 0), node(3, 1, 0), node(3, 3), node(3, 0, 1, 2, 1, 0),
		node(4, 0, 1), node(4, 2, 0), node(5), node(6), groupNode(-1), groupNode(-1, 1), groupNode(1, 0, 0), groupNode(3),
	}
}

// eachView goes through all views of at most that many nodes of these.
func eachView(nodes []impl.Node, most int, look func(v []impl.Node)) {
	var longer func(v []impl.Node, free int)
	longer = func(v []impl.Node, free int) {
		if free == 1 {
			look(v)
		}
		if len(v) == most {
			return
		}
		for _, n := range nodes {
			if looksAt(n.Kind) <= free {
				longer(append(slices.Clone(v), n), free+1-looksAt(n.Kind))
			}
		}
	}
	longer(nil, 0)
}

// Promise 9, of all views of up to 4 nodes: as many numbers as there are in the row at the end.
func TestWidthOfIsThatOfTheRowAtTheEnd(t *testing.T) {
	bases := [][]impl.Table{
		nil,
		{table("b", 2)},
		unlikeTables(),
		{table("a", 4), table("b", 3), table("c", 2), table("d", 1)},
		{table("a", 2), table("b", 2, []int64{1, 2}), table("x", 2)},
	}
	seen := map[int64]int{}
	eachView(nodesForViews(), 4, func(v []impl.Node) {
		for _, b := range bases {
			want := int64(-1)
			if made, _, is := lastRow(b, v); is {
				want = int64(len(made))
			}
			if got := impl.WidthOf(b, v); got != want {
				t.Fatalf("WidthOf(%v, %q) = %d, want %d", b, impl.ShowView(v), got, want)
			}
			seen[want]++
		}
	})
	for _, want := range []int64{-1, 1, 2, 3, 4, 5, 6} {
		if seen[want] == 0 {
			t.Errorf("no view is %d wide", want)
		}
	}
}

// Promise 9, by the chapters that are there: rows that are Picked, Sifted or Plus have WidthOf numbers.
func TestRowsHaveWidthOfNumbers(t *testing.T) {
	b := unlikeTables()
	rows := impl.BagOf(b[1].Rows)
	places, l := []int64{1, 1, 0}, conds(toNumber(0, 3, 5))
	cases := map[string][]impl.Count{
		"table b":                rows,
		"table b; where $0>5":    impl.Sifted(l, rows),
		"table b; table b; both": impl.Plus(rows, rows),
		"table b; keep 1 1 0":    impl.BagOf([][]int64{impl.Picked(b[1].Rows[0], places), impl.Picked(b[1].Rows[1], places)}),
	}
	for text, want := range cases {
		width := impl.WidthOf(b, readView(t, text))
		if len(want) == 0 {
			t.Errorf("%q has no row", text)
		}
		for _, c := range want {
			if int64(len(c.Row)) != width {
				t.Errorf("WidthOf(%q) = %d, but there is the row %v", text, width, c.Row)
			}
		}
	}
}

func TestTablesOf(t *testing.T) {
	cases := map[string][]string{
		"table a":                                                             {"a"},
		"table zzzzzz; once":                                                  {"zzzzzz"},
		"table a; table b; both":                                              {"a", "b"},
		"table b; table a; both":                                              {"a", "b"},
		"table b; table a; join 5 5":                                          {"a", "b"},
		"table a; table a; both":                                              {"a"},
		"table b; table a; table b; both; both":                               {"a", "b"},
		"table a; table b; table a; both; both":                               {"a", "b"},
		"table b; table b; table a; both; both":                               {"a", "b"},
		"table a; table c; both; table b; join 0 0":                           {"a", "b", "c"},
		"table c; table b; both; table a; join 0 0":                           {"a", "b", "c"},
		"table b; keep 0; table a; group; both; once":                         {"a", "b"},
		"table sum; table keep; both; table join; both":                       {"join", "keep", "sum"},
		"table b; table aa; both; table ab; both":                             {"aa", "ab", "b"},
		"table ab; table a; both; table aa; both":                             {"a", "aa", "ab"},
		"table a; table b; table c; table d; table e; both; both; both; both": {"a", "b", "c", "d", "e"},
		"table e; table d; table c; table b; table a; both; both; both; both": {"a", "b", "c", "d", "e"},
		"table e; table a; both; table e; both; table c; both; table a; both": {"a", "c", "e"},
		"table a; table a; table a; table a; table a; both; both; both; both": {"a"},
		"table b; table a; table a; table a; table b; both; both; both; both": {"a", "b"},
	}
	for text, want := range cases {
		if got := impl.TablesOf(readView(t, text)); !slices.Equal(got, want) {
			t.Errorf("TablesOf(%q) = %q, want %q", text, got, want)
		}
	}
}

func TestTablesOfAllViews(t *testing.T) {
	eachView(nodesForViews(), 4, func(v []impl.Node) {
		want := []string{}
		for _, name := range []string{"a", "b", "d", "x"} {
			if slices.ContainsFunc(v, func(n impl.Node) bool { return n.Name == name }) {
				want = append(want, name)
			}
		}
		if got := impl.TablesOf(v); !slices.Equal(got, want) {
			t.Fatalf("TablesOf(%q) = %q, want %q", impl.ShowView(v), got, want)
		}
	})
}

func TestTablesOfWhatIsNoView(t *testing.T) {
	for name, v := range wrongOrders() {
		if got := impl.TablesOf(v); len(got) != 0 {
			t.Errorf("%s: TablesOf is %q", name, got)
		}
	}
	for name, n := range wrongNodes() {
		for _, v := range viewsOf(n) {
			if got := impl.TablesOf(v); len(got) != 0 {
				t.Errorf("%s: TablesOf(%v) = %q", name, v, got)
			}
		}
	}
}

// Spare room behind the nodes, and behind the tables, is asked for nothing.
func TestSpareRoomHasNoWidth(t *testing.T) {
	v := view(tableNode("b"), node(3, 1, 0, 1), tableNode("a"), node(4, 0, 0), node(3, 0))
	for size, want := range []int64{-1, 2, 3, -1, 4} {
		if got := impl.WidthOf(unlikeTables()[:2], v[:size]); got != want {
			t.Errorf("WidthOf of %d nodes is %d, want %d", size, got, want)
		}
	}
	for size := range 5 {
		want := int64(-1)
		if size > 1 {
			want = 2
		}
		if got := impl.WidthOf(unlikeTables()[:size], v[:1]); got != want {
			t.Errorf("of %d tables WidthOf is %d, want %d", size, got, want)
		}
	}
	for size, want := range [][]string{{}, {"b"}, {"b"}, {}, {"a", "b"}} {
		if got := impl.TablesOf(v[:size]); !slices.Equal(got, want) {
			t.Errorf("TablesOf of %d nodes is %q, want %q", size, got, want)
		}
	}
}

// Promise 21, as far as widths go.
func TestWidthsLeaveTheirArguments(t *testing.T) {
	b, baseMemory := roomyBase(3, unlikeTables()...)
	baseWas := baseMemory()
	eachRoomyView(func(v []impl.Node, memory func() string) {
		was := memory()
		impl.WidthOf(b, v)
		impl.TablesOf(v)
		for _, n := range v {
			impl.StepWidth(n, 6, 2)
			impl.StepWidth(n, 1, 1)
		}
		if memory() != was || baseMemory() != baseWas {
			t.Fatalf("an argument was written into: %s, it was %s", memory(), was)
		}
	})
}

func TestTablesToldAreNew(t *testing.T) {
	for _, text := range []string{"table a", "table b; table a; both", "table a; table b; both; table a; both", "table a; table a; both"} {
		v, memory := roomyView(len(readView(t, text)), readView(t, text)...)
		was := memory()
		one := impl.TablesOf(v)
		want := slices.Clone(one)
		other := impl.TablesOf(v)
		for i := range one[:cap(one)] {
			one[:cap(one)][i] = "over"
		}
		if memory() != was || !slices.Equal(other, want) || !slices.Equal(impl.TablesOf(v), want) {
			t.Errorf("an answer of TablesOf(%q) shares memory: %q", text, other)
		}
	}
}
