package project_test

import (
	"math/rand"
	"slices"
	"strconv"
	"strings"
	"testing"

	"treemerge/api"
	"treemerge/parse"
	"treemerge/tree"
)

func node(kind int, text string, kids ...api.Node) api.Node {
	return api.Node{Kind: kind, Text: text, Kids: kids}
}

func withGaps(n api.Node, gaps ...string) api.Node {
	n.Gaps = gaps
	return n
}

func number(s string) api.Node { return node(api.KdInt, s) }

func let(s string) api.Node { return node(api.KdLet, s, number("1")) }

func param(s string) api.Node { return node(api.KdParam, s, node(api.KdType, "int")) }

func params(l ...api.Node) api.Node { return node(api.KdParams, "", l...) }

func block(l ...api.Node) api.Node { return node(api.KdBlock, "", l...) }

func function(f string, p api.Node, l ...api.Node) api.Node {
	return node(api.KdFunc, f, p, node(api.KdType, "int"), block(l...))
}

func class(c string, l ...api.Node) api.Node {
	return node(api.KdClass, c, append([]api.Node{node(api.KdBase, "")}, l...)...)
}

func constant(s string) api.Node { return node(api.KdConst, s, number("1")) }

func file(l ...api.Node) api.Node { return node(api.KdFile, "", l...) }

// parsed returns the tree of a source.
func parsed(t *testing.T, s string) api.Node {
	t.Helper()
	n, e, at := parse.File(s)
	if e != api.OK {
		t.Fatalf("%q: %d, %d", s, e, at)
	}
	return n
}

// units returns a unit that is not broken for each tree.
func units(l ...api.Node) []api.Unit {
	u := make([]api.Unit, len(l))
	for i, n := range l {
		u[i] = api.Unit{Path: "p" + strconv.Itoa(i), Tree: n}
	}
	return u
}

// isZero reports whether a tree is the zero value.
func isZero(n api.Node) bool {
	return n.Kind == 0 && n.Text == "" && len(n.Gaps) == 0 && len(n.Kids) == 0
}

// sameUnit reports whether two units are equal.
func sameUnit(a, b api.Unit) bool {
	return a.Path == b.Path && a.Text == b.Text && a.Broken == b.Broken && tree.Equal(a.Tree, b.Tree)
}

// placed is a node with the nodes around it, from the root to its parent.
type placed struct {
	node   api.Node
	around []api.Node
}

// preorder returns the nodes of a tree in preorder.
func preorder(n api.Node, around ...api.Node) []placed {
	l := []placed{{n, around}}
	for _, kid := range n.Kids {
		l = append(l, preorder(kid, append(slices.Clone(around), n)...)...)
	}
	return l
}

// class returns the class of which the node is a method, if it is one.
func (p placed) class() (api.Node, bool) {
	if p.node.Kind != api.KdFunc || len(p.around) == 0 {
		return api.Node{}, false
	}
	parent := p.around[len(p.around)-1]
	return parent, parent.Kind == api.KdClass
}

// qualified returns the name of a function: its Text, or C.m.
func (p placed) qualified() string {
	if c, ok := p.class(); ok {
		return c.Text + "." + p.node.Text
	}
	return p.node.Text
}

// function returns the name of the nearest function around a node, or an empty one.
func (p placed) function() string {
	for i := len(p.around) - 1; i >= 0; i-- {
		if p.around[i].Kind == api.KdFunc {
			return placed{p.around[i], p.around[:i]}.qualified()
		}
	}
	return ""
}

// decl is the definition of the declaration that a node is, if it is one, without its place.
func (p placed) decl() (api.Decl, bool) {
	kinds := map[int]int{api.KdFunc: api.DcFunc, api.KdClass: api.DcClass, api.KdConst: api.DcConst, api.KdParam: api.DcParam, api.KdLet: api.DcLet}
	kind, ok := kinds[p.node.Kind]
	d := api.Decl{Kind: kind, Name: p.node.Text}
	if c, isMethod := p.class(); isMethod {
		d.Kind, d.Owner = api.DcMethod, c.Text
	}
	if kind == api.DcParam || kind == api.DcLet {
		d.Owner = p.function()
	}
	return d, ok
}

// defined is the definition of Decls.
func defined(u []api.Unit) []api.Decl {
	var l []api.Decl
	for i, x := range u {
		if x.Broken {
			continue
		}
		for k, p := range preorder(x.Tree) {
			if d, ok := p.decl(); ok {
				d.At = api.Ref{Unit: i, Node: k}
				l = append(l, d)
			}
		}
	}
	return l
}

// found is the definition of Find, given the declarations.
func found(l []api.Decl, kind int, owner, name string) (api.Decl, bool) {
	for _, d := range l {
		if d.Kind == kind && d.Owner == owner && d.Name == name {
			return d, true
		}
	}
	return api.Decl{}, false
}

// listed writes declarations: the unit, the node, the kind, the owner before a colon, and the name.
func listed(l []api.Decl) string {
	kinds := []string{"none", "func", "class", "const", "method", "param", "let"}
	var s []string
	for _, d := range l {
		s = append(s, strconv.Itoa(d.At.Unit)+"/"+strconv.Itoa(d.At.Node)+" "+kinds[d.Kind]+" "+d.Owner+":"+d.Name)
	}
	return strings.Join(s, ", ")
}

// allLists returns all lists of trees that have this number of nodes together, each of them of one of these kinds.
func allLists(size int, kinds []int) [][]api.Node {
	if size == 0 {
		return [][]api.Node{nil}
	}
	var l [][]api.Node
	for first := 1; first <= size; first++ {
		rest := allLists(size-first, kinds)
		for _, kids := range allLists(first-1, kinds) {
			for _, kind := range kinds {
				for _, others := range rest {
					l = append(l, append([]api.Node{node(kind, "", kids...)}, others...))
				}
			}
		}
	}
	return l
}

// named returns the tree with a Text in each node: its index in preorder behind a letter.
func named(n api.Node) api.Node {
	rows := tree.Rows(n)
	for i := range rows {
		rows[i].Text = "n" + strconv.Itoa(i)
	}
	n, _ = tree.Build(rows)
	return n
}

// allTrees returns all trees of up to this number of nodes, each of them of one of these kinds and with a name of its own.
func allTrees(most int, kinds ...int) []api.Node {
	var l []api.Node
	for size := range most {
		for _, kids := range allLists(size, kinds) {
			for _, kind := range kinds {
				l = append(l, named(node(kind, "", kids...)))
			}
		}
	}
	return l
}

// anyTree returns a tree of nodes of all kinds and of none, with few different texts, that has at most this many levels.
func anyTree(r *rand.Rand, levels int) api.Node {
	frequent := []int{api.KdFunc, api.KdFunc, api.KdClass, api.KdClass, api.KdConst, api.KdParam, api.KdLet, api.KdBlock, api.KdParams}
	texts := []string{"", "f", "m", "C", "C.m", "x", "1", "fn", ".", "é\xff\n"}
	n := node(frequent[r.Intn(len(frequent))], texts[r.Intn(len(texts))])
	if r.Intn(3) == 0 {
		n.Kind = r.Intn(api.Kinds+4) - 2
	}
	if r.Intn(3) == 0 {
		n.Gaps = []string{" ", "x"}[:r.Intn(3)]
	}
	if levels > 1 {
		for range r.Intn(4) {
			n.Kids = append(n.Kids, anyTree(r, levels-1))
		}
	}
	return n
}

// anyUnits returns units with such trees, some of them broken.
func anyUnits(seed int64, count, levels int) []api.Unit {
	r := rand.New(rand.NewSource(seed))
	var u []api.Unit
	for range count {
		u = append(u, api.Unit{Path: []string{"", "a", "b", "/"}[r.Intn(4)], Text: []string{"", "fn f() int { }", "fn"}[r.Intn(3)], Tree: anyTree(r, levels), Broken: r.Intn(5) == 0})
	}
	return u
}
