package tree_test

import (
	"math"
	"reflect"
	"slices"
	"strings"
	"testing"

	"treemerge/api"
	"treemerge/tree"
)

// depth is the greatest number of levels for which the rules promise anything.
const depth = 1 << 16

func leaf(kind int, text string, gaps ...string) api.Node {
	return api.Node{Kind: kind, Text: text, Gaps: gaps}
}

func node(kind int, text string, gaps []string, kids ...api.Node) api.Node {
	return api.Node{Kind: kind, Text: text, Gaps: gaps, Kids: kids}
}

func row(parent, kind int, text string, gaps []string, kids ...int) api.Row {
	return api.Row{Parent: parent, Kind: kind, Text: text, Gaps: gaps, Kids: kids}
}

// example is the tree t of the chapter.
func example() api.Node {
	return node(api.KdParen, "", []string{"", " "}, node(api.KdBinary, "+", []string{" "}, leaf(api.KdInt, "1", ""), leaf(api.KdInt, "2", "")))
}

// exampleRows is the table of the tree t.
func exampleRows() []api.Row {
	return []api.Row{
		row(-1, api.KdParen, "", []string{"", " "}, 1),
		row(0, api.KdBinary, "+", []string{" "}, 2, 3),
		row(1, api.KdInt, "1", []string{""}),
		row(1, api.KdInt, "2", []string{""}),
	}
}

// shape is a tree by the parents of its nodes, in preorder.
type shape []int

// shapes returns all shapes of n nodes: the parent of a node is the node before it, or one above that.
func shapes(n int) []shape {
	all := []shape{{-1}}
	for i := 1; i < n; i++ {
		var next []shape
		for _, s := range all {
			for p := i - 1; p >= 0; p = s[p] {
				next = append(next, append(slices.Clone(s), p))
			}
		}
		all = next
	}
	return all
}

// someShapes returns all shapes of at most n nodes.
func someShapes(n int) []shape {
	var all []shape
	for k := 1; k <= n; k++ {
		all = append(all, shapes(k)...)
	}
	return all
}

// kids returns the nodes whose parent is i.
func (s shape) kids(i int) []int {
	var l []int
	for k, p := range s {
		if p == i {
			l = append(l, k)
		}
	}
	return l
}

// levels returns the number of levels, by the nodes above each node.
func (s shape) levels() int {
	most := 0
	for i := range s {
		n := 0
		for p := i; p >= 0; p = s[p] {
			n++
		}
		most = max(most, n)
	}
	return most
}

// size returns the number of nodes that are i or below it.
func (s shape) size(i int) int {
	n := 0
	for k := range s {
		for p := k; p >= 0; p = s[p] {
			if p == i {
				n++
			}
		}
	}
	return n
}

// kindAt, textAt and gapsAt are what the node i of a sample contains: kinds inside and outside of the language, texts and gaps of all sorts.
func kindAt(i int) int {
	return []int{api.KdFile, -1, api.KdInt, 0, 1 << 40, api.Kinds, math.MinInt, api.KdInt}[i%8]
}

func textAt(i int) string {
	return []string{"root", "", "x", "é\xff", "x", "a b\n", "\x00"}[i%7]
}

func gapsAt(i int) []string {
	return [][]string{{" ", ""}, {}, {""}, nil, {"\n", "// c\n", "x"}}[i%5]
}

// tree returns the sample tree of this shape at the node i.
func (s shape) tree(i int) api.Node {
	n := node(kindAt(i), textAt(i), gapsAt(i))
	for _, k := range s.kids(i) {
		n.Kids = append(n.Kids, s.tree(k))
	}
	return n
}

// rows returns the table of the sample tree.
func (s shape) rows() []api.Row {
	var l []api.Row
	for i, p := range s {
		l = append(l, row(p, kindAt(i), textAt(i), gapsAt(i), s.kids(i)...))
	}
	return l
}

// sameTrees is the definition of the same trees, and of equal ones if gaps is true.
func sameTrees(a, b api.Node, gaps bool) bool {
	if a.Kind != b.Kind || a.Text != b.Text || len(a.Kids) != len(b.Kids) {
		return false
	}
	if gaps && strings.Join(quoted(a.Gaps), ",") != strings.Join(quoted(b.Gaps), ",") {
		return false
	}
	for k := range a.Kids {
		if !sameTrees(a.Kids[k], b.Kids[k], gaps) {
			return false
		}
	}
	return true
}

// quoted returns the strings in brackets, with the lengths that make them distinct.
func quoted(l []string) []string {
	var q []string
	for _, s := range l {
		q = append(q, string(rune('a'+len(s)))+"["+s+"]")
	}
	return q
}

// sameRows reports whether two tables are equal; nil and empty lists are.
func sameRows(a, b []api.Row) bool {
	return slices.EqualFunc(a, b, func(x, y api.Row) bool {
		return x.Parent == y.Parent && x.Kind == y.Kind && x.Text == y.Text && slices.Equal(x.Gaps, y.Gaps) && slices.Equal(x.Kids, y.Kids)
	})
}

// isZero reports whether n is a zero node.
func isZero(n api.Node) bool {
	return n.Kind == 0 && n.Text == "" && len(n.Gaps) == 0 && len(n.Kids) == 0
}

// isTable is the definition of tables, by the parents alone: kids are all rows with this parent, in order.
func isTable(l []api.Row) bool {
	var s shape
	for i, r := range l {
		if i == 0 && r.Parent != -1 || i > 0 && !onPath(s, r.Parent) {
			return false
		}
		s = append(s, r.Parent)
	}
	for i, r := range l {
		if !slices.Equal(r.Kids, s.kids(i)) {
			return false
		}
	}
	return len(l) > 0
}

// onPath reports whether p is the last node of s, or above it.
func onPath(s shape, p int) bool {
	for i := len(s) - 1; i >= 0; i = s[i] {
		if i == p {
			return true
		}
	}
	return false
}

// chain returns a tree of n levels with one node each.
func chain(n int) api.Node {
	t := leaf(api.KdInt, "0", "")
	for range n - 1 {
		t = node(api.KdParen, "", []string{"", " "}, t)
	}
	return t
}

// P6.1: the example, the zero node, and indices outside.
func TestSizesOfExample(t *testing.T) {
	x := example()
	if tree.Size(x) != 4 || tree.Height(x) != 3 {
		t.Errorf("size %d, height %d", tree.Size(x), tree.Height(x))
	}
	for i, want := range []api.Node{x, x.Kids[0], x.Kids[0].Kids[0], x.Kids[0].Kids[1]} {
		if n, ok := tree.At(x, i); !ok || !sameTrees(n, want, true) {
			t.Errorf("At(%d) is %+v, %v", i, n, ok)
		}
	}
	for _, i := range []int{4, 5, 1000, math.MaxInt, -1, -2, -4, math.MinInt} {
		if n, ok := tree.At(x, i); ok || !isZero(n) {
			t.Errorf("At(%d) is %+v, %v", i, n, ok)
		}
	}
	if tree.Size(api.Node{}) != 1 || tree.Height(api.Node{}) != 1 {
		t.Error("the zero node")
	}
	if n, ok := tree.At(api.Node{}, 0); !ok || !isZero(n) {
		t.Errorf("At(0) of the zero node is %+v, %v", n, ok)
	}
	if _, ok := tree.At(api.Node{}, 1); ok {
		t.Error("At(1) of the zero node")
	}
}

// P6.1: all shapes of at most 8 nodes, and all indices in and around them.
func TestSizesOfShapes(t *testing.T) {
	for _, s := range someShapes(8) {
		x := s.tree(0)
		if tree.Size(x) != len(s) || tree.Height(x) != s.levels() {
			t.Fatalf("%v: size %d, height %d", s, tree.Size(x), tree.Height(x))
		}
		for i := -2; i < len(s)+3; i++ {
			n, ok := tree.At(x, i)
			if inside := i >= 0 && i < len(s); ok != inside {
				t.Fatalf("%v: At(%d) is %v", s, i, ok)
			}
			if ok && !sameTrees(n, s.tree(i), true) || !ok && !isZero(n) {
				t.Fatalf("%v: At(%d) is %+v", s, i, n)
			}
		}
	}
}

// P6.2: the example, and all shapes of at most 8 nodes.
func TestRows(t *testing.T) {
	if l := tree.Rows(example()); !sameRows(l, exampleRows()) {
		t.Errorf("Rows is %+v", l)
	}
	if l := tree.Rows(api.Node{}); !sameRows(l, []api.Row{row(-1, 0, "", nil)}) {
		t.Errorf("Rows of the zero node is %+v", l)
	}
	for _, s := range someShapes(8) {
		if l := tree.Rows(s.tree(0)); !sameRows(l, s.rows()) {
			t.Fatalf("%v: Rows is %+v", s, l)
		}
	}
}

// checkBuild compares Build of l with the definition.
func checkBuild(t *testing.T, l []api.Row) {
	t.Helper()
	n, e := tree.Build(l)
	if !isTable(l) {
		if e != api.ErrKind || !isZero(n) {
			t.Fatalf("Build(%+v) is %+v, %d", l, n, e)
		}
		return
	}
	if e != api.OK || !sameTrees(n, treeOf(l, 0), true) {
		t.Fatalf("Build(%+v) is %+v, %d", l, n, e)
	}
}

// treeOf returns the tree of the row i of a table.
func treeOf(l []api.Row, i int) api.Node {
	n := node(l[i].Kind, l[i].Text, l[i].Gaps)
	for _, k := range l[i].Kids {
		n.Kids = append(n.Kids, treeOf(l, k))
	}
	return n
}

// P6.3: the example, in other orders, and with rows left out, repeated and added.
func TestBuildExample(t *testing.T) {
	n, e := tree.Build(exampleRows())
	if e != api.OK || !sameTrees(n, example(), true) {
		t.Errorf("Build is %+v, %d", n, e)
	}
	for _, l := range [][]api.Row{nil, {}} {
		if n, e := tree.Build(l); e != api.ErrKind || !isZero(n) {
			t.Errorf("Build of no rows is %+v, %d", n, e)
		}
	}
	for code := range 256 {
		var l []api.Row
		for _, i := range []int{code & 3, code >> 2 & 3, code >> 4 & 3, code >> 6} {
			l = append(l, exampleRows()[i])
		}
		checkBuild(t, l)
	}
	for i := range 4 {
		checkBuild(t, slices.Delete(exampleRows(), i, i+1))
		checkBuild(t, exampleRows()[:i])
		checkBuild(t, exampleRows()[i:])
		for k := range 4 {
			checkBuild(t, slices.Insert(exampleRows(), k, exampleRows()[i]))
			checkBuild(t, append(exampleRows(), exampleRows()[i]))
		}
	}
}

// lists returns all lists of at most n numbers from low to high.
func lists(low, high, n int) [][]int {
	all, last := [][]int{nil}, [][]int{nil}
	for range n {
		var next [][]int
		for _, l := range last {
			for i := low; i <= high; i++ {
				next = append(next, append(slices.Clone(l), i))
			}
		}
		all = append(all, next...)
		last = next
	}
	return all
}

// someRows returns a row for each parent and each list of kids.
func someRows(low, high int, kids [][]int) []api.Row {
	var l []api.Row
	for p := low; p <= high; p++ {
		for _, k := range kids {
			l = append(l, row(p, p, "x", nil, k...))
		}
	}
	return l
}

// P6.3: all tables of one or two rows, and many of three, with indices in and around them.
func TestBuildSmallTables(t *testing.T) {
	for _, a := range someRows(-3, 2, lists(-2, 2, 3)) {
		checkBuild(t, []api.Row{a})
	}
	two := someRows(-2, 2, lists(-1, 2, 3))
	for _, a := range two {
		for _, b := range two {
			checkBuild(t, []api.Row{a, b})
		}
	}
	three := someRows(-1, 2, append(lists(0, 3, 2), []int{1, 2, 2}, []int{1, 2, 3}))
	for _, a := range three {
		for _, b := range three {
			for _, c := range three {
				checkBuild(t, []api.Row{a, b, c})
			}
		}
	}
}

// wrongKids returns lists that differ from l at one place, in one direction or another.
func wrongKids(l []int, most int) [][]int {
	var all [][]int
	for k := range l {
		all = append(all, slices.Delete(slices.Clone(l), k, k+1))
		for _, x := range []int{-1, l[k] - 1, l[k] + 1, most, most + 1, math.MaxInt, math.MinInt} {
			changed := slices.Clone(l)
			changed[k] = x
			all = append(all, changed)
		}
		swapped := slices.Clone(l)
		swapped[k], swapped[0] = swapped[0], swapped[k]
		all = append(all, swapped)
	}
	for k := range len(l) + 1 {
		for x := -1; x <= most+1; x++ {
			all = append(all, slices.Insert(slices.Clone(l), k, x))
		}
	}
	return append(all, l)
}

// P6.3, P6.5: all tables of at most 6 nodes with one wrong parent, kid, order or number of rows.
func TestBuildWrongTables(t *testing.T) {
	for _, s := range someShapes(6) {
		checkBuild(t, s.rows())
		for i := range s {
			for p := -3; p <= len(s)+1; p++ {
				l := s.rows()
				l[i].Parent = p
				checkBuild(t, l)
			}
			for _, k := range wrongKids(s.rows()[i].Kids, len(s)) {
				l := s.rows()
				l[i].Kids = k
				checkBuild(t, l)
			}
			for k := range s {
				l := s.rows()
				l[i], l[k] = l[k], l[i]
				checkBuild(t, l)
			}
			checkBuild(t, s.rows()[:i])
			checkBuild(t, s.rows()[i:])
			checkBuild(t, slices.Delete(s.rows(), i, i+1))
			checkBuild(t, slices.Insert(s.rows(), i, s.rows()[i]))
		}
		for p := -1; p <= len(s); p++ {
			checkBuild(t, append(s.rows(), row(p, 1, "", nil)))
			checkBuild(t, append(s.rows(), row(p, 1, "", nil, 0)))
		}
	}
}

// P6.3: tables in which every kid has its parent and every node is a kid, but not in preorder.
func TestBuildOtherOrders(t *testing.T) {
	for _, l := range [][]api.Row{
		{row(-1, 1, "", nil, 1, 2), row(0, 2, "", nil, 3), row(0, 3, "", nil), row(1, 4, "", nil)},
		{row(-1, 1, "", nil, 2, 1), row(0, 2, "", nil), row(0, 3, "", nil)},
		{row(-1, 1, "", nil, 2), row(2, 2, "", nil), row(0, 3, "", nil, 1)},
		{row(1, 1, "", nil), row(-1, 2, "", nil, 0)},
		{row(-1, 1, "", nil), row(2, 2, "", nil, 2), row(1, 3, "", nil, 1)},
		{row(-1, 1, "", nil), row(-1, 2, "", nil)},
		{row(-1, 1, "", nil), row(-1, 2, "", nil, 2), row(1, 2, "", nil)},
		{row(-1, 1, "", nil, 0)},
		{row(0, 1, "", nil, 0)},
		{row(0, 1, "", nil)},
	} {
		checkBuild(t, l)
		if _, e := tree.Build(l); e != api.ErrKind {
			t.Errorf("Build(%+v) is %d", l, e)
		}
	}
}

// P6.3: nil lists and empty ones are equal in a table.
func TestBuildEmptyLists(t *testing.T) {
	for _, gaps := range [][]string{nil, {}} {
		for _, kids := range [][]int{nil, {}} {
			n, e := tree.Build([]api.Row{{Parent: -1, Kind: 99, Text: "x", Gaps: gaps, Kids: kids}})
			if e != api.OK || !sameTrees(n, leaf(99, "x"), true) {
				t.Errorf("Build is %+v, %d", n, e)
			}
		}
	}
}

// variants returns trees that differ a little, and some that do not, as they have nil lists for empty ones.
func variants() []api.Node {
	a, b := leaf(1, "a"), leaf(1, "a", "")
	l := []api.Node{
		{}, {Gaps: []string{}, Kids: []api.Node{}}, {Kind: 1}, {Kind: -1}, {Text: "a"}, {Gaps: []string{""}}, {Gaps: []string{"", ""}}, {Gaps: []string{" "}}, {Gaps: []string{" ", ""}}, {Gaps: []string{"", " "}},
		a, b, leaf(1, "b"), leaf(2, "a"), leaf(1, "a", " "), leaf(1, "ab"), leaf(1, "a", "\n"), leaf(1, "a", "", ""),
		{Kids: []api.Node{{}}}, {Kids: []api.Node{{}, {}}}, {Kids: []api.Node{{Kids: []api.Node{{}}}}},
		node(1, "a", nil, a), node(1, "a", nil, b), node(1, "a", nil, a, a), node(1, "a", nil, a, b), node(1, "a", nil, b, a), node(1, "a", nil, b, b),
		node(1, "a", nil, node(1, "a", nil, a), a), node(1, "a", nil, a, node(1, "a", nil, a)), node(1, "a", nil, node(1, "a", nil, a, a)), node(1, "a", nil, a, a, a),
		node(1, "a", []string{}, node(1, "a", []string{}, a), a), node(1, "a", []string{""}, node(1, "a", nil, b), b),
		node(1, "a", nil, leaf(1, "b"), a), node(1, "a", nil, a, leaf(1, "b")), node(1, "a", nil, leaf(2, "a"), a),
		example(), tree.Bare(example()),
	}
	return l
}

// P6.4: all pairs of variants, and of the shapes of at most 5 nodes.
func TestCompare(t *testing.T) {
	l := variants()
	for _, s := range someShapes(5) {
		l = append(l, s.tree(0))
	}
	for i, a := range l {
		for k, b := range l {
			if got, want := tree.Same(a, b), sameTrees(a, b, false); got != want {
				t.Errorf("%d and %d: Same is %v", i, k, got)
			}
			if got, want := tree.Equal(a, b), sameTrees(a, b, true); got != want {
				t.Errorf("%d and %d: Equal is %v", i, k, got)
			}
		}
	}
	if x := example(); !tree.Same(x, tree.Bare(x)) || tree.Equal(x, tree.Bare(x)) {
		t.Error("the example and Bare of it")
	}
}

// changes returns copies of a sample, in each of which another node is changed.
func changes(s shape, change func(n *api.Node)) []api.Node {
	var all []api.Node
	for i := range s {
		x, at := s.tree(0), 0
		var visit func(n *api.Node)
		visit = func(n *api.Node) {
			if at++; at == i+1 {
				change(n)
			}
			for k := range n.Kids {
				visit(&n.Kids[k])
			}
		}
		visit(&x)
		all = append(all, x)
	}
	return all
}

// P6.4: a change of any one node is noticed, by Same unless it is one of gaps.
func TestCompareChanges(t *testing.T) {
	for _, s := range someShapes(6) {
		x := s.tree(0)
		for name, change := range map[string]func(n *api.Node){
			"kind": func(n *api.Node) { n.Kind++ },
			"text": func(n *api.Node) { n.Text += " " },
			"kids": func(n *api.Node) { n.Kids = append(n.Kids, api.Node{}) },
			"less": func(n *api.Node) { *n = api.Node{Kind: n.Kind + 1} },
			"gaps": func(n *api.Node) { n.Gaps = append(slices.Clone(n.Gaps), "") },
			"gap":  func(n *api.Node) { n.Gaps = []string{"another"} },
		} {
			gaps := strings.HasPrefix(name, "gap")
			for i, y := range changes(s, change) {
				if tree.Equal(x, y) || tree.Equal(y, x) || tree.Same(x, y) != gaps || tree.Same(y, x) != gaps {
					t.Fatalf("%v: the %s of node %d", s, name, i)
				}
			}
		}
	}
}

// barren reports whether no node has gaps.
func barren(n api.Node) bool {
	return len(n.Gaps) == 0 && !slices.ContainsFunc(n.Kids, func(k api.Node) bool { return !barren(k) })
}

// P6.4: Bare empties all gaps, and keeps all else.
func TestBare(t *testing.T) {
	l := variants()
	for _, s := range someShapes(7) {
		l = append(l, s.tree(0))
	}
	for _, x := range l {
		if b := tree.Bare(x); !barren(b) || !sameTrees(b, x, false) {
			t.Fatalf("Bare(%+v) is %+v", x, b)
		}
	}
}

// P6.5: tables lead to trees and back.
func TestTablesAndBack(t *testing.T) {
	l := append(variants(), chain(1000))
	for _, s := range someShapes(8) {
		l = append(l, s.tree(0))
	}
	for _, x := range l {
		rows := tree.Rows(x)
		n, e := tree.Build(rows)
		if e != api.OK || !tree.Equal(n, x) {
			t.Fatalf("Build(Rows(%+v)) is %+v, %d", x, n, e)
		}
		if !sameRows(tree.Rows(n), rows) {
			t.Fatalf("other rows of %+v", x)
		}
	}
}

// P6.6: the numbers of the nodes of a tree and of those below them.
func TestNumbers(t *testing.T) {
	for _, s := range someShapes(7) {
		x := s.tree(0)
		if n, ok := tree.At(x, 0); !ok || !tree.Equal(n, x) {
			t.Fatalf("%v: At(0)", s)
		}
		for i := -3; i < tree.Size(x)+3; i++ {
			n, ok := tree.At(x, i)
			if ok != (i >= 0 && i < tree.Size(x)) {
				t.Fatalf("%v: At(%d)", s, i)
			}
			if !ok {
				continue
			}
			next := i + 1
			for k, kid := range n.Kids {
				if at, ok := tree.At(x, next); !ok || !tree.Equal(at, kid) {
					t.Fatalf("%v: kid %d of node %d", s, k, i)
				}
				next += tree.Size(kid)
			}
			if tree.Size(n) != next-i || tree.Size(n) != s.size(i) {
				t.Fatalf("%v: the size of node %d", s, i)
			}
		}
	}
}

// P6.7: what the comparisons have to do with each other and with Bare.
func TestComparisons(t *testing.T) {
	l := variants()
	for _, s := range someShapes(4) {
		l = append(l, s.tree(0))
	}
	for i, a := range l {
		if !tree.Same(a, a) || !tree.Equal(a, a) {
			t.Errorf("%d and itself", i)
		}
		if tree.Size(tree.Bare(a)) != tree.Size(a) || tree.Height(tree.Bare(a)) != tree.Height(a) {
			t.Errorf("%d: size and height of Bare", i)
		}
		for k, b := range l {
			if tree.Same(a, b) != tree.Same(b, a) || tree.Equal(a, b) != tree.Equal(b, a) {
				t.Errorf("%d and %d: not symmetric", i, k)
			}
			if tree.Equal(a, b) && !tree.Same(a, b) {
				t.Errorf("%d and %d: equal, but not the same", i, k)
			}
			if tree.Same(a, b) != tree.Equal(tree.Bare(a), tree.Bare(b)) {
				t.Errorf("%d and %d: Same, and Equal of Bare", i, k)
			}
		}
	}
}

// spoil changes every string, number and node that the tree holds in memory, also behind the ends of its lists.
func spoil(n api.Node) {
	gaps := n.Gaps[:cap(n.Gaps)]
	for i := range gaps {
		gaps[i] += "spoiled"
	}
	for _, k := range n.Kids {
		spoil(k)
	}
	kids := n.Kids[:cap(n.Kids)]
	for i := range kids {
		kids[i] = leaf(77, "spoiled")
	}
}

// spoilRows does it to a table.
func spoilRows(l []api.Row) {
	for i := range l {
		gaps, kids := l[i].Gaps[:cap(l[i].Gaps)], l[i].Kids[:cap(l[i].Kids)]
		for k := range gaps {
			gaps[k] += "spoiled"
		}
		for k := range kids {
			kids[k] += 1000
		}
		l[i] = row(55, 55, "spoiled", nil)
	}
}

// P6.1 to P6.4 (R3): arguments are not changed, and results share no memory with them.
func TestMemoryOfArguments(t *testing.T) {
	for _, s := range someShapes(5) {
		x, want := s.tree(0), s.tree(0)
		for i := range s {
			n, _ := tree.At(x, i)
			spoil(n)
		}
		spoil(tree.Bare(x))
		spoilRows(tree.Rows(x))
		tree.Same(x, x)
		tree.Equal(x, x)
		if !reflect.DeepEqual(x, want) {
			t.Fatalf("%v: the tree has changed", s)
		}
		l := s.rows()
		n, _ := tree.Build(l)
		spoil(n)
		if !reflect.DeepEqual(l, s.rows()) {
			t.Fatalf("%v: the table has changed", s)
		}
		n, _ = tree.Build(l)
		spoilRows(l)
		if !tree.Equal(n, want) {
			t.Fatalf("%v: the tree of the table has changed", s)
		}
	}
}

// gapLists and kidLists return all lists of a tree.
func gapLists(n api.Node) [][]string {
	l := [][]string{n.Gaps}
	for _, k := range n.Kids {
		l = append(l, gapLists(k)...)
	}
	return l
}

func kidLists(n api.Node) [][]api.Node {
	l := [][]api.Node{n.Kids}
	for _, k := range n.Kids {
		l = append(l, kidLists(k)...)
	}
	return l
}

// apart reports whether no two of the lists share memory, also behind their ends.
func apart[E any](l [][]E) bool {
	seen := map[*E]bool{}
	for _, list := range l {
		list = list[:cap(list)]
		for i := range list {
			if seen[&list[i]] {
				return false
			}
			seen[&list[i]] = true
		}
	}
	return true
}

// sharing returns a tree, and its table, whose lists are the same memory where they are equal.
func sharing() (api.Node, []api.Row) {
	gaps := []string{"", " "}
	kids := []api.Node{node(1, "a", gaps), node(1, "b", gaps)}
	above := []api.Node{node(2, "c", gaps, kids...), node(3, "d", gaps, kids...)}
	rows := []api.Row{
		row(-1, 4, "e", gaps, 1, 4),
		row(0, 2, "c", gaps, 2, 3), row(1, 1, "a", gaps), row(1, 1, "b", gaps),
		row(0, 3, "d", gaps, 5, 6), row(4, 1, "a", gaps), row(4, 1, "b", gaps),
	}
	return node(4, "e", gaps, above...), rows
}

// P6.1 to P6.4 (R3): no two lists of a result share memory, even if those of the argument do.
func TestMemoryOfResults(t *testing.T) {
	x, l := sharing()
	built, e := tree.Build(l)
	if e != api.OK {
		t.Fatal(e)
	}
	at, _ := tree.At(x, 0)
	for i, n := range []api.Node{built, at, tree.Bare(x)} {
		if !tree.Same(n, x) || !apart(gapLists(n)) || !apart(kidLists(n)) {
			t.Errorf("result %d: %+v", i, n)
		}
	}
	rows := tree.Rows(x)
	var gaps [][]string
	var kids [][]int
	for _, r := range rows {
		gaps, kids = append(gaps, r.Gaps), append(kids, r.Kids)
	}
	if !sameRows(rows, l) || !apart(gaps) || !apart(kids) {
		t.Errorf("rows %+v", rows)
	}
}

// P6.1 to P6.7 (R1, R8): trees of as many levels as the rules promise.
func TestDeepTrees(t *testing.T) {
	x := chain(depth)
	if tree.Size(x) != depth || tree.Height(x) != depth {
		t.Errorf("size %d, height %d", tree.Size(x), tree.Height(x))
	}
	if n, ok := tree.At(x, depth-1); !ok || !tree.Equal(n, leaf(api.KdInt, "0", "")) {
		t.Errorf("At is %+v, %v", n, ok)
	}
	if n, ok := tree.At(x, 1); !ok || tree.Size(n) != depth-1 {
		t.Error("At(1)")
	}
	if _, ok := tree.At(x, depth); ok {
		t.Error("At behind the end")
	}
	b := tree.Bare(x)
	if !tree.Same(x, b) || tree.Equal(x, b) || !tree.Equal(x, x) {
		t.Error("Same, Equal, Bare")
	}
	l := tree.Rows(x)
	if len(l) != depth || l[depth-1].Parent != depth-2 || !slices.Equal(l[7].Kids, []int{8}) {
		t.Error("Rows")
	}
	if n, e := tree.Build(l); e != api.OK || !tree.Equal(n, x) {
		t.Errorf("Build is %d", e)
	}
	l[depth-1].Kids = []int{1}
	if n, e := tree.Build(l); e != api.ErrKind || !isZero(n) {
		t.Errorf("Build of a ring is %d", e)
	}
}

// P6.1 to P6.5: trees of many kids, each of which has one.
func TestWideTrees(t *testing.T) {
	const n = 100000
	x := leaf(1, "x", " ")
	for range n {
		x.Kids = append(x.Kids, node(2, "", nil, leaf(3, "y")))
	}
	if tree.Size(x) != 2*n+1 || tree.Height(x) != 3 {
		t.Errorf("size %d, height %d", tree.Size(x), tree.Height(x))
	}
	if a, ok := tree.At(x, 2*n); !ok || a.Kind != 3 {
		t.Errorf("At is %+v, %v", a, ok)
	}
	l := tree.Rows(x)
	if len(l) != 2*n+1 || l[0].Kids[n-1] != 2*n-1 || l[2*n].Parent != 2*n-1 {
		t.Error("Rows")
	}
	if b, e := tree.Build(l); e != api.OK || !tree.Equal(b, x) {
		t.Errorf("Build is %d", e)
	}
	l[2*n].Parent = 0
	if _, e := tree.Build(l); e != api.ErrKind {
		t.Errorf("Build of a wrong parent is %d", e)
	}
}

// P6.3 (R1): a table that points from row to row without end, or of far more levels than a tree may have, is answered.
func TestLongTables(t *testing.T) {
	const n = 2000000
	l := make([]api.Row, n)
	for i := range l {
		l[i] = row(i-1, 1, "", nil, i+1)
	}
	if _, e := tree.Build(l); e != api.ErrKind {
		t.Errorf("Build without an end is %d", e)
	}
	l[0].Parent, l[n-1].Kids = 0, nil
	if _, e := tree.Build(l); e != api.ErrKind {
		t.Errorf("Build without a root is %d", e)
	}
	l[0].Parent, l[n/2].Kids = -1, nil
	if _, e := tree.Build(l); e != api.ErrKind {
		t.Errorf("Build of two parts is %d", e)
	}
}
