package path_test

import (
	"math"
	"slices"
	"strconv"
	"strings"
	"testing"

	"treemerge/api"
	"treemerge/grammar"
	"treemerge/parse"
	"treemerge/tree"
)

func node(kind int, text string, kids ...api.Node) api.Node {
	return api.Node{Kind: kind, Text: text, Kids: kids}
}

func withGaps(n api.Node, gaps ...string) api.Node {
	n.Gaps = gaps
	return n
}

func number(text string) api.Node { return node(api.KdInt, text) }

// read returns the tree of a source.
func read(t *testing.T, parser func(string) (api.Node, api.Errno, int), s string) api.Node {
	t.Helper()
	n, e, at := parser(s)
	if e != api.OK {
		t.Fatalf("%q: %d, %d", s, e, at)
	}
	return n
}

func file(t *testing.T, s string) api.Node { return read(t, parse.File, s) }

func expr(t *testing.T, s string) api.Node { return read(t, parse.Expr, s) }

func stmt(t *testing.T, s string) api.Node { return read(t, parse.Stmt, s) }

// isZero reports whether a tree is the zero value.
func isZero(n api.Node) bool {
	return n.Kind == 0 && n.Text == "" && len(n.Gaps) == 0 && len(n.Kids) == 0
}

// model is a tree as the set of its nodes, without their kids, by their paths, which are written as .0.1 for the path [0, 1].
type model map[string]api.Node

// write writes a path.
func write(path []int) string {
	var s strings.Builder
	for _, k := range path {
		s.WriteString("." + strconv.Itoa(k))
	}
	return s.String()
}

// newModel returns the model of a tree.
func newModel(n api.Node) model {
	m := model{}
	m.add("", n)
	return m
}

// add adds a tree at the path.
func (m model) add(path string, n api.Node) {
	for k, kid := range n.Kids {
		m.add(path+"."+strconv.Itoa(k), kid)
	}
	n.Kids = nil
	m[path] = n
}

// kids returns the number of kids of the node at the path.
func (m model) kids(path string) int {
	k := 0
	for m.has(path + "." + strconv.Itoa(k)) {
		k++
	}
	return k
}

func (m model) has(path string) bool {
	_, found := m[path]
	return found
}

// tree returns the tree at the path.
func (m model) tree(path string) api.Node {
	n := m[path]
	for k := range m.kids(path) {
		n.Kids = append(n.Kids, m.tree(path+"."+strconv.Itoa(k)))
	}
	return n
}

// remove removes the nodes at the path and below it.
func (m model) remove(path string) {
	for s := range m {
		if s == path || strings.HasPrefix(s, path+".") {
			delete(m, s)
		}
	}
}

// shift moves the nodes at a path and below it to another path.
func (m model) shift(from, to string) {
	n := m.tree(from)
	m.remove(from)
	m.add(to, n)
}

// parted returns the path without its last number, and this number.
func parted(path []int) (string, int) {
	last := len(path) - 1
	return write(path[:last]), path[last]
}

// settle empties the gaps of the node at the path if it does not have so many own tokens as before.
func (m model) settle(path string, before int) {
	n := m.tree(path)
	if grammar.Own(n) != before {
		n.Gaps = nil
	}
	n.Kids = nil
	m[path] = n
}

// replaced is the definition of Replace, except that the new tree need not be well-formed.
func replaced(n api.Node, path []int, x api.Node) (api.Node, api.Errno) {
	m := newModel(n)
	if !m.has(write(path)) {
		return api.Node{}, api.ErrNone
	}
	if len(path) > 0 {
		above, k := parted(path)
		if !grammar.Fits(m[above].Kind, k, x.Kind) {
			return api.Node{}, api.ErrKind
		}
	}
	m.remove(write(path))
	m.add(write(path), x)
	return m.tree(""), api.OK
}

// inserted is the definition of Insert, except that the new tree need not be well-formed.
func inserted(n api.Node, path []int, x api.Node) (api.Node, api.Errno) {
	m := newModel(n)
	if len(path) == 0 {
		return api.Node{}, api.ErrNone
	}
	above, k := parted(path)
	if !m.has(above) || k < 0 || k > m.kids(above) {
		return api.Node{}, api.ErrNone
	}
	if !grammar.Fits(m[above].Kind, k, x.Kind) {
		return api.Node{}, api.ErrKind
	}
	own := grammar.Own(m.tree(above))
	for i := m.kids(above) - 1; i >= k; i-- {
		m.shift(above+"."+strconv.Itoa(i), above+"."+strconv.Itoa(i+1))
	}
	m.add(write(path), x)
	m.settle(above, own)
	return m.tree(""), api.OK
}

// removed is the definition of Remove, except that the new tree need not be well-formed.
func removed(n api.Node, path []int) (api.Node, api.Errno) {
	m := newModel(n)
	if len(path) == 0 || !m.has(write(path)) {
		return api.Node{}, api.ErrNone
	}
	above, k := parted(path)
	own, kids := grammar.Own(m.tree(above)), m.kids(above)
	m.remove(write(path))
	for i := k + 1; i < kids; i++ {
		m.shift(above+"."+strconv.Itoa(i), above+"."+strconv.Itoa(i-1))
	}
	m.settle(above, own)
	return m.tree(""), api.OK
}

// wellFormed returns what a function returns whose changed tree is n.
func wellFormed(n api.Node, e api.Errno) (api.Node, api.Errno) {
	if e != api.OK {
		return api.Node{}, e
	}
	if grammar.Check(n) != api.OK {
		return api.Node{}, api.ErrKind
	}
	return n, api.OK
}

// paths returns the paths of all nodes, in preorder.
func paths(n api.Node) [][]int {
	l := [][]int{{}}
	for k, kid := range n.Kids {
		for _, p := range paths(kid) {
			l = append(l, append([]int{k}, p...))
		}
	}
	return l
}

// insertionPaths returns all insertion paths.
func insertionPaths(n api.Node) [][]int {
	var l [][]int
	for k, kid := range n.Kids {
		l = append(l, []int{k})
		for _, p := range insertionPaths(kid) {
			l = append(l, append([]int{k}, p...))
		}
	}
	return append(l, []int{len(n.Kids)})
}

// wrongPaths returns paths that lead to no node: at one place of each path, and behind its end, there is a number that is no index of a kid.
func wrongPaths(n api.Node) [][]int {
	var l [][]int
	for _, k := range []int{-1, len(n.Kids), len(n.Kids) + 1, -len(n.Kids) - 1, math.MinInt, math.MaxInt, 1 << 32} {
		l = append(l, []int{k}, []int{k, 0})
		if len(n.Kids) > 0 {
			for _, p := range paths(n.Kids[0]) {
				l = append(l, append([]int{k}, p...))
			}
		}
	}
	for k, kid := range n.Kids {
		for _, p := range wrongPaths(kid) {
			l = append(l, append([]int{k}, p...))
		}
	}
	return l
}

// everything is a file with nodes of all kinds, and gaps of all sorts.
const everything = `// all
class A { }
class B : A { fn m ( a int , b bool ) int { return self . m ( a , true ) ; } fn n() bool { return false; } }
const c = - ( 1 + 2 ) * 3 ;
fn f(a int) int { // f
	let x = a;
	x = f( x ) + g (x, // x
		1, 2);
	if a == 1 & true { return a; } else { f(1); new A().n(); }
	while !(true | 1 < x) { if false { } }
	return new B ( ).m(1 , 2 - x, c / 3);
}
`

// samples returns well-formed trees: with all gaps, with none, with those of each second node, and parts of them.
func samples(t *testing.T) []api.Node {
	t.Helper()
	n := file(t, everything)
	rows := tree.Rows(n)
	seen := make([]bool, api.Kinds)
	for i := range rows {
		seen[rows[i].Kind] = true
		if i%2 == 1 {
			rows[i].Gaps = nil
		}
	}
	if slices.Contains(seen[1:], false) {
		t.Fatalf("the kinds that there are: %v", seen)
	}
	half, _ := tree.Build(rows)
	return []api.Node{n, half, tree.Bare(n), number("1"), expr(t, " f ( 1 , g ( ) )"), stmt(t, "if a { } else { }")}
}

// grafts returns trees of all kinds, with gaps and without; the last ones are not well-formed.
func grafts(t *testing.T) []api.Node {
	t.Helper()
	var l []api.Node
	seen := map[string]bool{}
	n := file(t, everything)
	for i := range tree.Size(n) {
		x, _ := tree.At(n, i)
		if s := strconv.Itoa(x.Kind) + "/" + strconv.Itoa(len(x.Kids)) + "/" + strconv.Itoa(grammar.Level(x)); !seen[s] {
			seen[s] = true
			l = append(l, x)
			if len(l)%3 == 0 {
				l = append(l, tree.Bare(x))
			}
		}
	}
	return append(l, api.Node{}, node(api.Kinds, ""), node(-1, "a"), number("x"), node(api.KdBlock, "a"), node(api.KdLet, "a"), withGaps(number("1"), "x"), withGaps(node(api.KdDo, "", number("1")), ""))
}
