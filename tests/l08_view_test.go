package tests

import (
	"fmt"
	"math"
	"slices"
	"strconv"
	"strings"
	"testing"

	"loop.example/g00604/impl"
)

// node is one that tells Places and no Place, tableNode, whereNode and groupNode those that tell something else.
func node(kind int64, places ...int64) impl.Node {
	return impl.Node{Kind: kind, Places: places, Place: -1}
}

func tableNode(name string) impl.Node {
	return impl.Node{Kind: 1, Name: name, Place: -1}
}

func whereNode(l ...impl.Cond) impl.Node {
	return impl.Node{Kind: 2, Conds: l, Place: -1}
}

func groupNode(place int64, places ...int64) impl.Node {
	return impl.Node{Kind: 7, Places: places, Place: place}
}

func view(nodes ...impl.Node) []impl.Node { return nodes }

func sameNode(a impl.Node, b impl.Node) bool {
	return a.Kind == b.Kind && a.Name == b.Name && slices.Equal(a.Conds, b.Conds) && slices.Equal(a.Places, b.Places) && a.Place == b.Place
}

func sameView(a []impl.Node, b []impl.Node) bool {
	return slices.EqualFunc(a, b, sameNode)
}

func cloneView(v []impl.Node) []impl.Node {
	var cloned []impl.Node
	for _, n := range v {
		n.Conds = slices.Clone(n.Conds)
		n.Places = slices.Clone(n.Places)
		cloned = append(cloned, n)
	}
	return cloned
}

// viewWith has that node at its end, behind what it looks at.
func viewWith(n impl.Node) []impl.Node {
	switch n.Kind {
	case 1:
		return view(n)
	case 4, 5:
		return view(tableNode("a"), tableNode("b"), n)
	}
	return view(tableNode("a"), n)
}

// textWith is viewWith of the text of a node, by its kind.
func textWith(kind int64, text string) string {
	return []string{"table a; ", "", "table a; ", "table a; ", "table a; table b; ", "table a; table b; ", "table a; ", "table a; "}[kind] + text
}

type nodeText struct {
	node impl.Node
	text string
}

func rightNodes() []nodeText {
	nodes := []nodeText{
		{tableNode("a"), "table a"},
		{tableNode("z"), "table z"},
		{tableNode("abcxyz"), "table abcxyz"},
		{tableNode("table"), "table table"},
		{tableNode("sum"), "table sum"},
		{impl.Node{Kind: 1, Name: "a", Conds: []impl.Cond{}, Places: []int64{}, Place: -1}, "table a"},
		{node(3, 0), "keep 0"},
		{node(3, 5), "keep 5"},
		{node(3, 1, 0), "keep 1 0"},
		{node(3, 2, 2), "keep 2 2"},
		{node(3, 0, 1, 2, 3, 4, 5), "keep 0 1 2 3 4 5"},
		{node(3, 5, 4, 3, 2, 1, 0), "keep 5 4 3 2 1 0"},
		{node(3, 0, 0, 0, 0, 0, 0), "keep 0 0 0 0 0 0"},
		{node(4, 0, 1), "join 0 1"},
		{node(4, 1, 0), "join 1 0"},
		{node(4, 0, 0), "join 0 0"},
		{node(4, 5, 5), "join 5 5"},
		{node(5), "both"},
		{impl.Node{Kind: 5, Conds: []impl.Cond{}, Places: []int64{}, Place: -1}, "both"},
		{node(6), "once"},
		{groupNode(-1), "group"},
		{groupNode(-1, 0), "group 0"},
		{groupNode(-1, 5, 0), "group 5 0"},
		{groupNode(-1, 5, 5, 5), "group 5 5 5"},
		{groupNode(-1, 0, 1, 2), "group 0 1 2"},
		{groupNode(0), "group sum 0"},
		{groupNode(5), "group sum 5"},
		{groupNode(2, 0, 1), "group 0 1 sum 2"},
		{groupNode(0, 0), "group 0 sum 0"},
		{groupNode(5, 3, 1, 4), "group 3 1 4 sum 5"},
		{groupNode(0, 5, 5, 5), "group 5 5 5 sum 0"},
	}
	for _, c := range rightConds() {
		nodes = append(nodes, nodeText{whereNode(c.conds...), "where " + c.text})
	}
	return nodes
}

type viewText struct {
	view []impl.Node
	text string
}

func rightViews() []viewText {
	a, b := tableNode("a"), tableNode("b")
	views := []viewText{
		{view(a, a, node(5), node(6)), "table a; table a; both; once"},
		{view(a, whereNode(toNumber(0, 2, 1), toPlace(1, 1, 0)), node(3, 1)), "table a; where $0=1,$1<$0; keep 1"},
		{view(a, b, node(4, 0, 1), groupNode(2, 0, 1)), "table a; table b; join 0 1; group 0 1 sum 2"},
		{view(a, whereNode(toNumber(0, 3, 0)), b, whereNode(), node(5)), "table a; where $0>0; table b; where -; both"},
		{view(a, b, a, node(5), node(4, 1, 0)), "table a; table b; table a; both; join 1 0"},
		{view(a, b, node(5), a, node(4, 1, 0)), "table a; table b; both; table a; join 1 0"},
		{view(a, b, node(6), node(4, 0, 0), node(3, 0)), "table a; table b; once; join 0 0; keep 0"},
		{view(a, node(6), node(6), node(6)), "table a; once; once; once"},
		{view(a, groupNode(-1), groupNode(-1), groupNode(0)), "table a; group; group; group sum 0"},
		{view(a, a, a, a, a, node(5), node(5), node(5), node(5)), "table a; table a; table a; table a; table a; both; both; both; both"},
		{
			view(tableNode("abcxyz"), node(3, 0, 1, 2), whereNode(toNumber(2, 1, -1000), toNumber(0, 3, 1000), toPlace(5, 2, 4)), b, node(6), node(4, 2, 5), groupNode(5, 4, 3), node(3, 5), node(6)),
			"table abcxyz; keep 0 1 2; where $2<-1000,$0>1000,$5=$4; table b; once; join 2 5; group 4 3 sum 5; keep 5; once",
		},
	}
	for _, c := range rightNodes() {
		views = append(views, viewText{viewWith(c.node), textWith(c.node.Kind, c.text)})
	}
	return views
}

func TestNodeConstants(t *testing.T) {
	kinds := []int{impl.NdTable, impl.NdWhere, impl.NdKeep, impl.NdJoin, impl.NdBoth, impl.NdOnce, impl.NdGroup}
	if !slices.Equal(kinds, []int{1, 2, 3, 4, 5, 6, 7}) || impl.MaxNodes != 9 {
		t.Fatal(kinds, impl.MaxNodes)
	}
}

func TestRightNodesAreOk(t *testing.T) {
	for _, c := range rightNodes() {
		if !impl.NodeOk(c.node) {
			t.Errorf("NodeOk(%v) is false", c.node)
		}
	}
}

// Promise 8: ReadView of ShowView is the view.
func TestRightViewsAreOkShownAndReadBack(t *testing.T) {
	for _, c := range rightViews() {
		if !impl.ViewOk(c.view) {
			t.Errorf("ViewOk(%v) is false", c.view)
		}
		if got := impl.ShowView(c.view); got != c.text {
			t.Errorf("ShowView(%v) = %q, want %q", c.view, got, c.text)
		}
		if got, is := impl.ReadView(c.text); !is || !sameView(got, c.view) {
			t.Errorf("ReadView(%q) = %v, %v, want %v", c.text, got, is, c.view)
		}
	}
}

// isRightNode asks what the chapter tells of one node, kind by kind.
func isRightNode(n impl.Node) bool {
	least, most := 0, 0
	switch n.Kind {
	case 1, 2, 5, 6:
	case 3:
		least, most = 1, 6
	case 4:
		least, most = 2, 2
	case 7:
		most = 3
	default:
		return false
	}
	isPlace := func(place int64) bool { return place >= 0 && place <= 5 }
	for _, place := range n.Places {
		if !isPlace(place) {
			return false
		}
	}
	for _, c := range n.Conds {
		if !isRightCond(c) {
			return false
		}
	}
	named := len(n.Name) >= 1 && len(n.Name) <= 6 && strings.Trim(n.Name, "abcdefghijklmnopqrstuvwxyz") == ""
	return len(n.Places) >= least && len(n.Places) <= most && (n.Place == -1 || n.Kind == 7 && isPlace(n.Place)) &&
		(len(n.Conds) == 0 || n.Kind == 2) && len(n.Conds) <= 3 && named == (n.Kind == 1) && (named || n.Name == "")
}

// allNodes are all of these fields together; most of them are not right.
func allNodes() []impl.Node {
	right, wrong := toNumber(0, 2, 1), toNumber(6, 2, 1)
	condLists := [][]impl.Cond{nil, {}, conds(right), conds(right, right, right), conds(right, right, right, right), conds(wrong)}
	placeLists := [][]int64{nil, {}, {0}, {5}, {-1}, {6}, {0, 1}, {5, 0}, {0, 6}, {-1, 0}, {1, 2, 3}, {1, 2, 6}, {0, 1, 2, 3}, {0, 1, 2, 3, 4}, {0, 1, 2, 3, 4, 5}, {0, 1, 2, 3, 4, 6}, {0, 1, 2, 3, 4, 5, 0}}
	var nodes []impl.Node
	for kind := int64(-1); kind <= 9; kind++ {
		for _, name := range []string{"", "a", "abcxyz", "abcdefg", "A", "-"} {
			for _, l := range condLists {
				for _, places := range placeLists {
					for place := int64(-3); place <= 7; place++ {
						nodes = append(nodes, impl.Node{Kind: kind, Name: name, Conds: l, Places: places, Place: place})
					}
				}
			}
		}
	}
	return nodes
}

// Promise 8, for every kind, with each of the fields right and not.
func TestEveryNodeIsReadBack(t *testing.T) {
	shown := map[string]bool{}
	for _, n := range allNodes() {
		want := isRightNode(n)
		v := viewWith(n)
		if impl.NodeOk(n) != want || impl.ViewOk(v) != want {
			t.Fatalf("NodeOk(%v) is %v, ViewOk of it behind what it looks at is %v", n, impl.NodeOk(n), impl.ViewOk(v))
		}
		text := impl.ShowView(v)
		if !want {
			if text != "" {
				t.Fatalf("ShowView(%v) = %q", v, text)
			}
			continue
		}
		if got, is := impl.ReadView(text); !is || !sameView(got, v) {
			t.Fatalf("%v is shown as %q and read as %v, %v", v, text, got, is)
		}
		shown[text] = true
	}
	// 2 names, 3 lists of conds, of places 8 to keep and 2 to join, both, once, and to group 6 lists of places each with 7 Places.
	if want := 2 + 3 + 8 + 2 + 1 + 1 + 6*7; len(shown) != want {
		t.Fatalf("%d texts are shown, want %d", len(shown), want)
	}
}

// wrongNodes are not right, wherever they stand.
func wrongNodes() map[string]impl.Node {
	nodes := map[string]impl.Node{
		"the zero Node":                  {},
		"kind 0":                         node(0),
		"kind 0, one Place":              node(0, 1),
		"kind 8":                         node(8),
		"kind 8, one Place":              node(8, 1),
		"kind -1":                        node(-1),
		"greatest kind":                  node(math.MaxInt64),
		"least kind":                     node(math.MinInt64),
		"a kind a multiple of 2^32 more": node(1<<32 + 6),
		"a kind a multiple of 2^8 more":  node(1<<8 + 6),
		"table without a name":           tableNode(""),
		"keep, no Place":                 node(3),
		"keep, an empty list":            node(3, []int64{}...),
		"keep, 7 Places":                 node(3, 0, 1, 2, 3, 4, 5, 0),
		"keep, 1000 Places":              node(3, make([]int64, 1000)...),
		"join, no Place":                 node(4),
		"join, 1 Place":                  node(4, 0),
		"join, 3 Places":                 node(4, 0, 1, 2),
		"join, 1000 Places":              node(4, make([]int64, 1000)...),
		"group, 4 Places":                groupNode(-1, 0, 1, 2, 3),
		"group, 4 Places and a sum":      groupNode(0, 0, 1, 2, 3),
		"group, 1000 Places":             groupNode(0, make([]int64, 1000)...),
		"where, 4 conds":                 whereNode(slices.Repeat(conds(toNumber(0, 2, 1)), 4)...),
		"where, 1000 conds":              whereNode(slices.Repeat(conds(toNumber(0, 2, 1)), 1000)...),
	}
	for _, name := range wrongNames() {
		nodes[fmt.Sprintf("table, the name %q", name)] = tableNode(name)
	}
	for name, l := range wrongCondLists() {
		nodes["where, "+name] = whereNode(l...)
	}
	for _, place := range []int64{-1, 6, 7, 1000, -1000, 1 << 32, math.MinInt64, math.MaxInt64} {
		nodes[fmt.Sprint("keep ", place)] = node(3, place)
		nodes[fmt.Sprint("keep, the last one ", place)] = node(3, 0, 1, 2, 3, 4, place)
		nodes[fmt.Sprint("join, the one ", place)] = node(4, place, 0)
		nodes[fmt.Sprint("join, the other ", place)] = node(4, 0, place)
		nodes[fmt.Sprint("group ", place)] = groupNode(-1, place)
		nodes[fmt.Sprint("group, the last one ", place)] = groupNode(0, 0, 1, place)
	}
	for _, place := range []int64{-2, 6, 7, 1000, -1000, 1 << 32, 1<<32 - 1, math.MinInt64, math.MaxInt64} {
		nodes[fmt.Sprint("group, no Places, the sum of ", place)] = groupNode(place)
		nodes[fmt.Sprint("group, the sum of ", place)] = groupNode(place, 0, 1, 2)
	}
	addToldTooMuch(nodes)
	return nodes
}

// addToldTooMuch adds each right node with a field that its kind does not tell.
func addToldTooMuch(nodes map[string]impl.Node) {
	for _, c := range rightNodes() {
		if c.node.Kind != 1 {
			for _, name := range []string{"a", "A", " ", "-"} {
				n := c.node
				n.Name = name
				nodes[c.text+fmt.Sprintf(", and the name %q", name)] = n
			}
		}
		if c.node.Kind != 2 {
			for _, l := range [][]impl.Cond{conds(toNumber(0, 2, 1)), {{}}, slices.Repeat(conds(toNumber(0, 2, 1)), 4)} {
				n := c.node
				n.Conds = l
				nodes[c.text+fmt.Sprint(", and the conds ", l)] = n
			}
		}
		if c.node.Kind != 3 && c.node.Kind != 4 && c.node.Kind != 7 {
			for _, places := range [][]int64{{0}, {-1}, {0, 1}, {0, 1, 2, 3, 4, 5}} {
				n := c.node
				n.Places = places
				nodes[c.text+fmt.Sprint(", and the Places ", places)] = n
			}
		}
		if c.node.Kind != 7 {
			for _, place := range []int64{-2, 0, 1, 5, 6, math.MinInt64, math.MaxInt64} {
				n := c.node
				n.Place = place
				nodes[c.text+fmt.Sprint(", and the Place ", place)] = n
			}
		}
	}
}

// viewsOf has that node at the end, in the midst, ahead and alone.
func viewsOf(n impl.Node) [][]impl.Node {
	return [][]impl.Node{view(n), viewWith(n), append(viewWith(n), node(6)), view(n, node(6)), view(tableNode("a"), n, node(6)), view(tableNode("a"), n, node(5)), view(n, n, n, n, n, n, n, n, n)}
}

func TestWrongNodesAreRefused(t *testing.T) {
	for name, n := range wrongNodes() {
		if impl.NodeOk(n) {
			t.Errorf("%s: NodeOk(%v) is true", name, n)
		}
		for _, v := range viewsOf(n) {
			if got := impl.ShowView(v); impl.ViewOk(v) || got != "" {
				t.Errorf("%s: ViewOk(%v) is %v, ShowView %q", name, v, impl.ViewOk(v), got)
			}
		}
	}
}

func TestNamesOfNodesOfEveryByte(t *testing.T) {
	for b := range 256 {
		for _, name := range []string{string([]byte{byte(b)}), string([]byte{'a', byte(b), 'z'}), string([]byte{'a', 'b', 'c', 'd', 'e', byte(b)})} {
			want := 'a' <= b && b <= 'z'
			if got := impl.NodeOk(tableNode(name)); got != want {
				t.Errorf("NodeOk of the name %q is %v", name, got)
			}
			got, is := impl.ReadView("table " + name + "; once")
			if is != want || is && got[0].Name != name || !is && len(got) != 0 {
				t.Errorf("ReadView of the name %q is %v, %v", name, got, is)
			}
		}
	}
}

// looksAt is how many nodes one of that kind looks at.
func looksAt(kind int64) int {
	return []int{0, 0, 1, 1, 2, 2, 1, 1}[kind]
}

// isRightOrder asks of right nodes whether each is behind what it looks at, and one is at the end.
func isRightOrder(v []impl.Node) bool {
	free := 0
	for _, n := range v {
		if free < looksAt(n.Kind) {
			return false
		}
		free = free - looksAt(n.Kind) + 1
	}
	return len(v) <= 9 && free == 1
}

// eachKind has one right node of each kind, and what it is shown as.
func eachKind() []nodeText {
	return []nodeText{
		{tableNode("a"), "table a"},
		{whereNode(toNumber(0, 2, 1)), "where $0=1"},
		{node(3, 1, 0), "keep 1 0"},
		{node(4, 0, 1), "join 0 1"},
		{node(5), "both"},
		{node(6), "once"},
		{groupNode(2, 0), "group 0 sum 2"},
	}
}

// checkOrder asks of right nodes, and of their texts, all that there is to ask.
func checkOrder(t *testing.T, v []impl.Node, texts []string) bool {
	t.Helper()
	want := isRightOrder(v)
	text := strings.Join(texts, "; ")
	if impl.ViewOk(v) != want {
		t.Fatalf("ViewOk of %q is not %v", text, want)
	}
	got, is := impl.ReadView(text)
	if is != want || is && !sameView(got, v) || !is && len(got) != 0 {
		t.Fatalf("ReadView(%q) = %v, %v", text, got, is)
	}
	if shown := impl.ShowView(v); want && shown != text || !want && shown != "" {
		t.Fatalf("ShowView(%v) = %q", v, shown)
	}
	return want
}

// Promise 8, for nodes of each kind in every order, up to 5 of them.
func TestNodesInEveryOrder(t *testing.T) {
	right := make([]int, 6)
	var try func(v []impl.Node, texts []string)
	try = func(v []impl.Node, texts []string) {
		if checkOrder(t, v, texts) {
			right[len(v)]++
		}
		if len(v) == 5 {
			return
		}
		for _, c := range eachKind() {
			try(append(slices.Clone(v), c.node), append(slices.Clone(texts), c.text))
		}
	}
	try(nil, nil)
	// Ways to put nodes behind each other that look at none (1 kind), at one (4) and at two (2).
	if !slices.Equal(right, []int{0, 1, 4, 18, 88, 456}) {
		t.Fatal(right)
	}
}

func TestUpToMaxNodes(t *testing.T) {
	table, both, once := eachKind()[0], eachKind()[4], eachKind()[5]
	for size := range 31 {
		var line, pile, ahead []nodeText
		for i := range size {
			kind := once
			if i == 0 {
				kind = table
			}
			line = append(line, kind)
			// One table, and then one more and both again and again.
			kind = both
			if i%2 == 1 || i == 0 {
				kind = table
			}
			pile = append(pile, kind)
			kind = both
			if i <= size/2 {
				kind = table
			}
			ahead = append(ahead, kind)
		}
		for i, list := range [][]nodeText{line, pile, ahead} {
			var v []impl.Node
			var texts []string
			for _, c := range list {
				v = append(v, c.node)
				texts = append(texts, c.text)
			}
			want := size >= 1 && size <= 9 && (i == 0 || size%2 == 1)
			if got := checkOrder(t, v, texts); got != want {
				t.Errorf("of %d nodes, list %d, the view is %v", size, i, got)
			}
		}
	}
}

// wrongOrders are no views, though most of them have nothing but right nodes.
func wrongOrders() map[string][]impl.Node {
	a, once, both, join := tableNode("a"), node(6), node(5), node(4, 0, 0)
	return map[string][]impl.Node{
		"no node":                          nil,
		"an empty list":                    {},
		"a node ahead of what it looks at": view(once, a),
		"where, alone":                     view(whereNode()),
		"keep, alone":                      view(node(3, 0)),
		"once, alone":                      view(once),
		"group, alone":                     view(groupNode(-1)),
		"join, alone":                      view(join),
		"both, alone":                      view(both),
		"join behind one node alone":       view(a, join),
		"both behind one node alone":       view(a, both),
		"both behind one of two, twice":    view(a, a, both, both),
		"join behind what both made of":    view(a, a, both, join),
		"both ahead of the second one":     view(a, both, a),
		"join ahead of both":               view(join, a, a),
		"two nodes at the end":             view(a, a),
		"two nodes at the end, one kept":   view(a, a, node(3, 0)),
		"two nodes at the end, of three":   view(a, a, a, both),
		"two nodes at the end, of 9":       view(a, once, once, once, once, once, once, once, a),
		"9 tables":                         slices.Repeat(view(a), 9),
		"10 nodes":                         append(view(a), slices.Repeat(view(once), 9)...),
		"11 nodes, two by two":             append(slices.Repeat(view(a), 6), slices.Repeat(view(both), 5)...),
		"1000 nodes":                       append(view(a), slices.Repeat(view(once), 999)...),
		"a right view and a wrong node":    view(a, once, node(8)),
		"a wrong node and a right view":    view(node(0), a, once),
	}
}

func TestWrongOrders(t *testing.T) {
	for name, v := range wrongOrders() {
		if got := impl.ShowView(v); impl.ViewOk(v) || got != "" {
			t.Errorf("%s: ViewOk is %v, ShowView %q", name, impl.ViewOk(v), got)
		}
	}
}

// Spare room is not of the view, nor of a list of its nodes.
func TestSpareRoomIsNotOfTheView(t *testing.T) {
	a, once := tableNode("a"), node(6)
	nodes := view(a, once, once, a, node(9))
	for size := range len(nodes) + 1 {
		if got := impl.ViewOk(nodes[:size]); got != (size >= 1 && size <= 3) {
			t.Errorf("ViewOk of %d nodes is %v", size, got)
		}
	}
	places := []int64{0, 1, 2, 3, 6, 7}
	for size := range len(places) + 1 {
		keep, join, group := impl.NodeOk(node(3, places[:size]...)), impl.NodeOk(node(4, places[:size]...)), impl.NodeOk(groupNode(0, places[:size]...))
		if keep != (size >= 1 && size <= 4) || join != (size == 2) || group != (size <= 3) {
			t.Errorf("of %d Places NodeOk is %v, %v and %v", size, keep, join, group)
		}
	}
	l := conds(toNumber(0, 2, 1), toNumber(0, 2, 1), toNumber(9, 9, 9))
	for size := range len(l) + 1 {
		if got := impl.NodeOk(whereNode(l[:size]...)); got != (size <= 2) {
			t.Errorf("of %d conds NodeOk is %v", size, got)
		}
	}
}

func textsOfNoView() []string {
	nodes := func(size int) string { return "table a" + strings.Repeat("; once", size-1) }
	return []string{
		// nothing
		"", " ", ";", "; ", " ;", ";;", "; ;", "  ", "\n", "-", "\x00",
		// what is missing
		"table", "table ", "once", "both", "group", "where -", "keep 0", "join 0 1", "a", "0", "table a; where", "table a; where ", "table a; keep", "table a; keep ", "table a; a", "table a; 0", "table a; -", "table a; $0=1",
		// blanks
		" table a", "table a ", "table  a", "table\ta", "table a\n", "\ntable a", "table a\x00", "\x00table a", "table a\r", "table\u00a0a",
		"table a; once ", "table a ; once", "table a ;once", "table a;  once", "table a;once", "table a;\tonce", "table a;\nonce", "table a\nonce", "table a once", "table a, once", "table a  once",
		"table a; keep  0", "table a; keep 0  1", "table a; keep 0 ", "table a; keep\t0", "table a; keep0", "table a; keep 01 2", "table a; keep 0\t1", "table a; keep 0,1", "table a; group  sum 0", "table a; group sum  0", "table a; group 0  sum 0", "table a; group ", "table a; group 0 sum 0 ",
		"table a; where  -", "table a; where - ", "table a; where $0=1, $1=2", "table a; where $0=1 ,$1=2", "table a; where $0 = 1", "table a; where $0=1 $1=2", "table a; where $0=1;$1=2", "table a; where $0=1; $1=2",
		// semicolons
		"table a;", "table a; ", ";table a", "; table a", "table a;;", "table a; ;", "table a;; once", "table a; ; once", "table a; once;", "table a; once; ", "table; a", "table ;a", "table a; keep; 0", "table a; keep 0; 1", "table a; group; sum 0", "table a; group 0; sum 0", "table a; table b; join 0; 1",
		// words
		"Table a; once", "TABLE a", "tables a", "tabl a", "t a", "tablea", "1 a", "view a", "make a 1", "drop a", "table a; sum 0", "table a; sum", "table a; Once", "table a; onc", "table a; oncee", "table a; distinct", "table a; o", "table a; 6", "table a; wher -", "table a; Where -", "table a; keeps 0", "table a; groups", "table a; grou", "table a; \xff", "table a; -1",
		"table a; table b; Join 0 1", "table a; table b; joins 0 1", "table a; table b; Both", "table a; table b; plus", "table a; once once", "once; table a",
		// numbers
		"table a; keep 00", "table a; keep 01", "table a; keep +1", "table a; keep -0", "table a; keep -1", "table a; keep +0", "table a; keep 0 01", "table a; keep x", "table a; keep 0 x", "table a; keep 0x1", "table a; keep 1.0", "table a; keep 1e0", "table a; keep 1_0", "table a; keep $0", "table a; keep \u0661", "table a; keep \xff", "table a; keep -", "table a; keep 6", "table a; keep 0 6", "table a; keep 10", "table a; keep 1000000000", "table a; keep 4294967296", "table a; keep 9223372036854775808", "table a; keep 18446744073709551616", "table a; keep -18446744073709551616",
		"table a; keep " + strings.Repeat("1", 5000), "table a; keep " + strings.Repeat("0", 5000), "table a; keep " + strings.Repeat("0", 5000) + "1",
		"table a; table b; join 00 1", "table a; table b; join 0 01", "table a; table b; join +0 1", "table a; table b; join 0 +1", "table a; table b; join -0 1", "table a; table b; join -1 0", "table a; table b; join 0 -1", "table a; table b; join 6 0", "table a; table b; join 0 6", "table a; table b; join x 0", "table a; table b; join 0 x",
		"table a; group 00", "table a; group +0", "table a; group -0", "table a; group -1", "table a; group 6", "table a; group x", "table a; group 0 1 6", "table a; group -", "table a; group 4294967296",
		// numbers too many and too few
		"table a 0", "table 0", "table a; where - 0", "table a; where 0", "table a; keep 0 1 2 3 4 5 0", "table a; keep " + strings.Repeat("0 ", 5000) + "0", "table a; table b; join", "table a; table b; join 0", "table a; table b; join 0 1 2", "table a; table b; both 0", "table a; table b; both 0 1", "table a; once 0", "table a; once -", "table a; once -1", "table a; group 0 1 2 3", "table a; group 0 1 2 3 sum 0", "table a; group " + strings.Repeat("0 ", 5000) + "0",
		// sums
		"table a; group sum", "table a; group 0 sum", "table a; group 0 1 2 sum", "table a; group sum 0 1", "table a; group sum 0 0", "table a; group 0 sum 1 2", "table a; group sum 0 sum 1", "table a; group sum sum 0", "table a; group 0 sum sum 0", "table a; group 0 sum 1 sum 2", "table a; group sum 0 1 2 3", "table a; group sum 2 0 1",
		"table a; group sum -1", "table a; group 0 sum -1", "table a; group sum -2", "table a; group sum 6", "table a; group 0 sum 6", "table a; group sum 00", "table a; group sum 01", "table a; group sum +1", "table a; group sum -0", "table a; group sum x", "table a; group sum -", "table a; group 0 Sum 1", "table a; group 0 sums 1", "table a; group 0 su 1", "table a; group 0 1 sum2", "table a; group 0sum 1", "table a; group sum 4294967296", "table a; group sum 18446744073709551615",
		"table a; keep 0 sum 1", "table a; keep sum 1", "table a; once sum 1", "table a sum 1", "table a; where - sum 1", "table a; table b; join 0 1 sum 1", "table a; table b; join sum 1", "table a; table b; both sum 1", "table a; keep 0 sum -1", "table a; once sum -1", "sum 1",
		// names
		"table A", "table abcdefg", "table a1", "table 1", "table -", "table $0", "table a-b", "table a,b", "table a b", "table a table b", "table \xff", "table \u00e9", "table table a", "table " + strings.Repeat("a", 5000), "table a; once a", "table a; keep a", "table a; table b; both a", "table a; group a", "table a; where a",
		// conds
		"table a; where --", "table a; where - -", "table a; where -,-", "table a; where $6=1", "table a; where $0=$6", "table a; where $0=1001", "table a; where $0=01", "table a; where $0!1", "table a; where 0=1", "table a; where $0=1,", "table a; where ,$0=1", "table a; where $0=1,$0=1,$0=1,$0=1", "table a; where $0=1,$0=1,$0=1,", "table a; where keep", "table a; where " + strings.Repeat("$0=1,", 5000) + "$0=1",
		// nodes that are no view
		"table a; table b", "table a; both", "table a; join 0 1", "both; table a; table b", "join 0 1; table a; table b", "table a; both; table b", "table a; table b; table a; both", "table a; table b; both; both", "table a; table b; join 0 1; join 0 1", "where -; table a", "keep 0; table a", "group; table a",
		nodes(10), nodes(11), nodes(5000), nodes(9) + ";", nodes(9) + "; ", nodes(9) + "; x", "x; " + nodes(8), nodes(8) + "; table b", strings.Repeat("table a; ", 5000), strings.Repeat("table a; ", 5) + "both; both; both; both; once", strings.Repeat(";", 5000), strings.Repeat(" ", 5000), strings.Repeat("table ", 5000) + "a",
	}
}

func TestTextsOfNoView(t *testing.T) {
	for _, s := range textsOfNoView() {
		if v, is := impl.ReadView(s); is || len(v) != 0 {
			t.Errorf("ReadView(%.60q) = %v, %v", s, v, is)
		}
	}
}

// What is no text of conds is none in a view.
func TestTextsOfNoCondsInAView(t *testing.T) {
	for _, s := range textsOfNoConds() {
		for _, text := range []string{"table a; where " + s, "table a; where " + s + "; once"} {
			if v, is := impl.ReadView(text); is || len(v) != 0 {
				t.Errorf("ReadView(%.60q) = %v, %v", text, v, is)
			}
		}
	}
}

// isRightText asks of a node's word, and of the words behind it, what the chapter tells.
func isRightText(kind int64, behind []string) bool {
	n := impl.Node{Kind: kind, Place: -1}
	at := slices.Index(behind, "sum")
	switch {
	case kind == 1:
		return len(behind) == 1 && isRightNode(tableNode(behind[0]))
	case kind == 2:
		return len(behind) == 1 && (behind[0] == "-" || behind[0] == "$0=1")
	case kind == 7 && at >= 0:
		if at != len(behind)-2 || len(behind[at+1]) != 1 {
			return false
		}
		n.Place = int64(behind[at+1][0]) - '0'
		behind = behind[:at]
		if n.Place < 0 {
			return false
		}
	}
	for _, word := range behind {
		if len(word) != 1 {
			return false
		}
		n.Places = append(n.Places, int64(word[0])-'0')
	}
	return isRightNode(n)
}

// Each kind with all lists of up to 4 words behind it: nothing but what is shown is read.
func TestReadViewOfAllWordsBehindAKind(t *testing.T) {
	words := []string{"0", "5", "6", "sum", "-1", "01", "a", "-", "$0=1"}
	var try func(kind int64, word string, behind []string)
	try = func(kind int64, word string, behind []string) {
		text := textWith(kind, strings.Join(append([]string{word}, behind...), " "))
		want := isRightText(kind, behind)
		if got := checkViewShownAgain(t, text); got != want {
			t.Fatalf("ReadView(%q) is %v", text, got)
		}
		if len(behind) == 4 {
			return
		}
		for _, next := range words {
			try(kind, word, append(slices.Clone(behind), next))
		}
	}
	for i, word := range []string{"table", "where", "keep", "join", "both", "once", "group"} {
		try(int64(i+1), word, nil)
	}
	try(0, "sum", nil)
	try(0, "tables", nil)
}

// Keep up to 8 Places, group up to 6, join up to 4, with every number from 0 to 9 at the end.
func TestReadViewByTheNumberOfPlaces(t *testing.T) {
	words := map[int64]string{3: "keep", 4: "join", 7: "group"}
	for kind, word := range words {
		for size := range 9 {
			text := textWith(kind, word+strings.Repeat(" 2", size))
			for last := range int64(10) {
				n := impl.Node{Kind: kind, Places: append(slices.Repeat([]int64{2}, size), last), Place: -1}
				s := text + " " + strconv.FormatInt(last, 10)
				got, is := impl.ReadView(s)
				if is != isRightNode(n) || is && !sameView(got, viewWith(n)) || !is && len(got) != 0 {
					t.Errorf("ReadView(%q) = %v, %v", s, got, is)
				}
				n = impl.Node{Kind: kind, Places: slices.Repeat([]int64{2}, size), Place: last}
				s = text + " sum " + strconv.FormatInt(last, 10)
				got, is = impl.ReadView(s)
				if is != isRightNode(n) || is && !sameView(got, viewWith(n)) || !is && len(got) != 0 {
					t.Errorf("ReadView(%q) = %v, %v", s, got, is)
				}
			}
		}
	}
}

// What stands between words, and between nodes, is nothing but that.
func TestReadViewOfWhatStandsBetween(t *testing.T) {
	between := []string{"", " ", "  ", ";", "; ", " ;", " ; ", ";  ", ";; ", "\t", "\n", ",", ", ", ";\n", ";\t", "\u00a0", "\x00"}
	for _, ahead := range between {
		for _, word := range between {
			for _, one := range between {
				for _, place := range between {
					for _, end := range between {
						s := ahead + "table" + word + "a" + one + "keep" + place + "0" + end
						want := ahead == "" && word == " " && one == "; " && place == " " && end == ""
						if got := checkViewShownAgain(t, s); got != want {
							t.Fatalf("ReadView(%q) is %v", s, got)
						}
					}
				}
			}
		}
	}
}

// checkViewShownAgain sees to it that whatever ReadView takes, ShowView makes again.
func checkViewShownAgain(t *testing.T, s string) bool {
	t.Helper()
	v, is := impl.ReadView(s)
	if is && (!impl.ViewOk(v) || impl.ShowView(v) != s) || !is && len(v) != 0 {
		t.Fatalf("ReadView(%q) = %v, %v", s, v, is)
	}
	return is
}

// Every right text with one byte put in, taken out or made another.
func TestReadViewTakesNothingButWhatIsShown(t *testing.T) {
	for _, c := range rightViews() {
		for at := range len(c.text) + 1 {
			for b := range 256 {
				put := c.text[:at] + string([]byte{byte(b)})
				checkViewShownAgain(t, put+c.text[at:])
				if at < len(c.text) {
					checkViewShownAgain(t, put+c.text[at+1:])
				}
			}
			checkViewShownAgain(t, c.text[:at])
			checkViewShownAgain(t, c.text[at:])
			if at < len(c.text) {
				checkViewShownAgain(t, c.text[:at]+c.text[at+1:])
			}
		}
	}
}

// All short texts of the bytes that matter behind a table: as many are taken as there are nodes shown so.
func TestReadViewOfAllShortTextsBehindATable(t *testing.T) {
	taken := map[string]bool{}
	texts := []string{""}
	for range 6 {
		var longer []string
		for _, s := range texts {
			for _, b := range "0156 ;-" {
				longer = append(longer, s+string(b))
			}
		}
		for _, s := range longer {
			for _, ahead := range []string{"table a; keep", "table a; group", "table a; group 0 sum", "table a; table b; join"} {
				if checkViewShownAgain(t, ahead+s) {
					taken[ahead+s] = true
				}
			}
		}
		texts = longer
	}
	// Of three digits 1 to 3 Places each to keep and to group, 1 sum, 2 to join.
	if want := 2*(3+9+27) + 3 + 9; len(taken) != want {
		t.Fatalf("%d texts are taken, want %d", len(taken), want)
	}
}

// roomyView has spare room behind its nodes, and behind the lists of each of them; beside it a look at all of this memory.
func roomyView(size int, nodes ...impl.Node) ([]impl.Node, func() string) {
	room := cloneView(nodes)
	for i := range room {
		room[i].Conds = append(slices.Clone(room[i].Conds), toNumber(0, 2, 71), toNumber(0, 2, 72))[:len(room[i].Conds)]
		room[i].Places = append(slices.Clone(room[i].Places), 71, 72)[:len(room[i].Places)]
	}
	memory := func() string {
		all := fmt.Sprint(room)
		for _, n := range room {
			all += fmt.Sprint(n.Conds[:cap(n.Conds)], n.Places[:cap(n.Places)])
		}
		return all
	}
	return room[:size], memory
}

// overwriteView writes into each node, and into the spare room behind its lists and behind the nodes.
func overwriteView(v []impl.Node) {
	v = v[:cap(v)]
	for i := range v {
		overwriteConds(v[i].Conds)
		overwrite(v[i].Places)
		v[i] = impl.Node{Kind: -98, Name: "no", Place: -97}
	}
}

// eachRoomyView goes through right views and wrong ones, with less and less spare room behind their nodes.
func eachRoomyView(look func(v []impl.Node, memory func() string)) {
	lists := [][]impl.Node{nil, {{}}}
	for _, c := range rightViews() {
		lists = append(lists, c.view, append(slices.Clone(c.view), tableNode("b"), node(9, 1, 2)))
	}
	for _, n := range wrongNodes() {
		lists = append(lists, viewWith(n))
	}
	for _, list := range lists {
		for size := range len(list) + 1 {
			look(roomyView(size, list...))
		}
	}
}

// Promise 21, as far as views go.
func TestViewsStay(t *testing.T) {
	eachRoomyView(func(v []impl.Node, memory func() string) {
		was := memory()
		impl.ViewOk(v)
		impl.ShowView(v)
		for _, n := range v {
			impl.NodeOk(n)
		}
		if memory() != was {
			t.Fatalf("an argument was written into: %s, it was %s", memory(), was)
		}
	})
}

// The lists of all nodes may share memory with each other.
func TestNodesOfOneMemory(t *testing.T) {
	places := []int64{0, 1, 2, 3, 4, 5}
	l := conds(toNumber(0, 2, 1), toNumber(1, 2, 2), toNumber(2, 2, 3))
	v := view(tableNode("a"), whereNode(l[:1]...), whereNode(l...), node(3, places...), node(3, places[1:3]...), groupNode(5, places[:2]...))
	want := "table a; where $0=1; where $0=1,$1=2,$2=3; keep 0 1 2 3 4 5; keep 1 2; group 0 1 sum 5"
	if got := impl.ShowView(v); got != want {
		t.Fatal(got)
	}
	if !slices.Equal(places, []int64{0, 1, 2, 3, 4, 5}) || impl.ShowConds(l) != "$0=1,$1=2,$2=3" {
		t.Fatal("an argument was written into", places, l)
	}
}

func TestViewsReadAreNew(t *testing.T) {
	texts := []string{"", "x", "table a;", "table a; keep 01", "table a; keep 0; table b", "table a; where $0=1; keep 6"}
	for _, c := range rightViews() {
		texts = append(texts, c.text)
	}
	for _, text := range texts {
		one, oneIs := impl.ReadView(text)
		want := cloneView(one)
		other, otherIs := impl.ReadView(text)
		overwriteView(one)
		if !sameView(other, want) || oneIs != otherIs {
			t.Fatalf("two answers of ReadView(%q) share memory: %v", text, other)
		}
		if again, is := impl.ReadView(text); !sameView(again, want) || is != oneIs {
			t.Fatalf("ReadView(%q) became %v, %v", text, again, is)
		}
	}
}

// No two lists of one answer share memory: what is written behind and into one of them is in no other.
func TestListsOfAViewReadAreApart(t *testing.T) {
	texts := []string{
		"table a; where $0=1,$1=2; where $0=1,$1=2; where -; where $0=1",
		"table a; keep 1 0; keep 1 0; group 1 0; group sum 0; keep 0",
		"table a; keep 0 1 2; where $0=1; table b; group 0 1 sum 2; join 0 1; group 0 1; where $0=1; keep 0 1 2",
	}
	for _, c := range rightViews() {
		texts = append(texts, c.text)
	}
	for _, text := range texts {
		v, _ := impl.ReadView(text)
		want := cloneView(v)
		for i := range v {
			overwriteConds(v[i].Conds)
			copy(v[i].Conds, want[i].Conds)
			overwrite(v[i].Places)
			copy(v[i].Places, want[i].Places)
			if !sameView(v, want) {
				t.Fatalf("lists of one answer of ReadView(%q) share memory: %v", text, v)
			}
		}
	}
}
