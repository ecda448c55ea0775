package scope_test

import (
	"math/rand"
	"slices"
	"strconv"
	"strings"
	"testing"

	"treemerge/api"
	"treemerge/project"
	"treemerge/scope"
	"treemerge/tree"
)

func node(kind int, text string, kids ...api.Node) api.Node {
	return api.Node{Kind: kind, Text: text, Kids: kids}
}

func use(s string) api.Node { return node(api.KdName, s) }

func let(s string, kids ...api.Node) api.Node { return node(api.KdLet, s, kids...) }

func block(l ...api.Node) api.Node { return node(api.KdBlock, "", l...) }

func params(l ...api.Node) api.Node { return node(api.KdParams, "", l...) }

func param(s string, kids ...api.Node) api.Node { return node(api.KdParam, s, kids...) }

func function(s string, kids ...api.Node) api.Node { return node(api.KdFunc, s, kids...) }

func class(s string, kids ...api.Node) api.Node { return node(api.KdClass, s, kids...) }

func constant(s string, kids ...api.Node) api.Node { return node(api.KdConst, s, kids...) }

func file(l ...api.Node) api.Node { return node(api.KdFile, "", l...) }

// units returns a unit that is not broken for each tree.
func units(l ...api.Node) []api.Unit {
	u := make([]api.Unit, len(l))
	for i, n := range l {
		u[i] = api.Unit{Path: "p" + strconv.Itoa(i), Tree: n}
	}
	return u
}

// load returns the units of sources.
func load(t *testing.T, sources ...string) []api.Unit {
	t.Helper()
	var l []api.File
	for i, s := range sources {
		l = append(l, api.File{Path: "p" + strconv.Itoa(100+i), Text: s + "\n"})
	}
	u, e := project.Load(l)
	if e != api.OK {
		t.Fatalf("Load = %d", e)
	}
	for i, x := range u {
		if x.Broken {
			t.Fatalf("%q is broken", sources[i])
		}
	}
	return u
}

// words are the names of the kinds in the tests.
func words() []string {
	return []string{"none", "file", "fn", "params", "param", "type", "block", "class", "base", "const", "let", "set", "return", "if", "else", "while", "do", "int", "bool", "name", "call", "send", "new", "self", "binary", "unary", "paren"}
}

// place writes a node of a project: its kind, its text, and, if nodes of the same kind and text precede it, how many.
func place(u []api.Unit, at api.Ref) string {
	if at.Unit < 0 || at.Unit >= len(u) || u[at.Unit].Broken {
		return "no node"
	}
	n, ok := tree.At(u[at.Unit].Tree, at.Node)
	if !ok {
		return "no node"
	}
	before := 0
	for i, x := range u[:at.Unit+1] {
		if x.Broken {
			continue
		}
		for k, r := range tree.Rows(x.Tree) {
			if r.Kind == n.Kind && r.Text == n.Text && (i < at.Unit || k < at.Node) {
				before++
			}
		}
	}
	s := strings.TrimSpace(words()[n.Kind] + " " + n.Text)
	if before > 0 {
		s += "#" + strconv.Itoa(before)
	}
	return s
}

// listed writes uses, each with its declaration behind it.
func listed(u []api.Unit, l []api.Use) string {
	var s []string
	for _, x := range l {
		switch {
		case x.Bound:
			s = append(s, place(u, x.At)+" > "+place(u, x.Decl))
		case x.Decl != api.Ref{}:
			s = append(s, place(u, x.At)+" > wrong")
		default:
			s = append(s, place(u, x.At)+" > -")
		}
	}
	return strings.Join(s, ", ")
}

// places writes nodes.
func places(u []api.Unit, l []api.Ref) string {
	var s []string
	for _, at := range l {
		s = append(s, place(u, at))
	}
	return strings.Join(s, ", ")
}

// at returns the node that place writes like this.
func at(t *testing.T, u []api.Unit, s string) api.Ref {
	t.Helper()
	for i, x := range u {
		if x.Broken {
			continue
		}
		for k := range tree.Size(x.Tree) {
			if r := (api.Ref{Unit: i, Node: k}); place(u, r) == s {
				return r
			}
		}
	}
	t.Fatalf("there is no %s", s)
	return api.Ref{}
}

// wantUses checks the uses of units, and that Unbound and Resolve agree with them.
func wantUses(t *testing.T, name string, u []api.Unit, want string) {
	t.Helper()
	l := scope.Uses(u)
	if got := listed(u, l); got != want {
		t.Errorf("%s: Uses = %s, want %s", name, got, want)
	}
	var unbound []api.Ref
	for _, x := range l {
		if !x.Bound {
			unbound = append(unbound, x.At)
		}
		if d, ok := scope.Resolve(u, x.At); d != x.Decl || ok != x.Bound {
			t.Errorf("%s: Resolve(%s) = %v, %t, want %v, %t", name, place(u, x.At), d, ok, x.Decl, x.Bound)
		}
	}
	if got := scope.Unbound(u); !slices.Equal(got, unbound) {
		t.Errorf("%s: Unbound = %s, want %s", name, places(u, got), places(u, unbound))
	}
}

// toward returns the kid of the node p that is the node x or is around it, if p is around x.
func toward(rows []api.Row, p, x int) (int, bool) {
	for k := x; k >= 0; k = rows[k].Parent {
		if rows[k].Parent == p {
			return k, true
		}
	}
	return 0, false
}

// counts reports whether the node p around the node x is the nearest function around x or is inside of it, or there is none.
func counts(rows []api.Row, p, x int) bool {
	for i := rows[x].Parent; i != p; i = rows[i].Parent {
		if rows[i].Kind == api.KdFunc {
			return false
		}
	}
	return true
}

// scopeOf returns the node P for which the node d is a variable that is visible at the node x, if it is one.
func scopeOf(rows []api.Row, d, x int) (int, bool) {
	p := rows[d].Parent
	isParam := rows[d].Kind == api.KdParam
	if isParam && p >= 0 && rows[p].Kind == api.KdParams {
		p = rows[p].Parent
	} else if rows[d].Kind != api.KdLet {
		return 0, false
	}
	if p < 0 {
		return 0, false
	}
	k, isAround := toward(rows, p, x)
	if !isAround || !counts(rows, p, x) || d >= k {
		return 0, false
	}
	if isParam {
		return p, rows[p].Kind == api.KdFunc && rows[k].Kind == api.KdBlock
	}
	return p, rows[p].Kind == api.KdBlock
}

// variableOf is the definition of the variable to which a name refers at the node x.
func variableOf(rows []api.Row, name string, x int) (int, bool) {
	nearest, first, found := -1, 0, false
	for d, r := range rows {
		if r.Text != name {
			continue
		}
		if p, ok := scopeOf(rows, d, x); ok && p > nearest { // of two nodes around x, the inner one has the greater index
			nearest, first, found = p, d, true
		}
	}
	return first, found
}

// firstOf returns the first declaration of the kind and name.
func firstOf(l []api.Decl, kind int, name string) (api.Ref, bool) {
	for _, d := range l {
		if d.Kind == kind && d.Name == name {
			return d.At, true
		}
	}
	return api.Ref{}, false
}

// definedUses is the definition of Uses.
func definedUses(u []api.Unit) []api.Use {
	var l []api.Use
	decls := project.Decls(u)
	for i, x := range u {
		if x.Broken {
			continue
		}
		rows := tree.Rows(x.Tree)
		for k, r := range rows {
			y := api.Use{At: api.Ref{Unit: i, Node: k}}
			switch {
			case r.Kind == api.KdName || r.Kind == api.KdSet:
				if d, ok := variableOf(rows, r.Text, k); ok {
					y.Decl, y.Bound = api.Ref{Unit: i, Node: d}, true
				} else {
					y.Decl, y.Bound = firstOf(decls, api.DcConst, r.Text)
				}
			case r.Kind == api.KdCall:
				y.Decl, y.Bound = firstOf(decls, api.DcFunc, r.Text)
			case r.Kind == api.KdNew, r.Kind == api.KdType && r.Text != "int" && r.Text != "bool", r.Kind == api.KdBase && r.Text != "":
				y.Decl, y.Bound = firstOf(decls, api.DcClass, r.Text)
			default:
				continue
			}
			l = append(l, y)
		}
	}
	return l
}

// definedVisible is the definition of Visible for a node that exists.
func definedVisible(u []api.Unit, at api.Ref) []string {
	var l []string
	rows := tree.Rows(u[at.Unit].Tree)
	for d, r := range rows {
		if _, ok := scopeOf(rows, d, at.Node); ok {
			l = append(l, r.Text)
		}
	}
	for _, d := range project.Decls(u) {
		if d.Kind == api.DcConst {
			l = append(l, d.Name)
		}
	}
	slices.Sort(l)
	return slices.Compact(l)
}

// isDouble reports whether the declaration d is a double of the earlier one c.
func isDouble(u []api.Unit, c, d api.Decl) bool {
	if c.Name != d.Name || c.Kind != d.Kind {
		return false
	}
	if d.Kind != api.DcParam && d.Kind != api.DcLet && d.Kind != api.DcMethod {
		return true
	}
	p, q := tree.Rows(u[c.At.Unit].Tree)[c.At.Node].Parent, tree.Rows(u[d.At.Unit].Tree)[d.At.Node].Parent
	return c.At.Unit == d.At.Unit && p == q && p >= 0
}

// definedDoubles is the definition of Doubles.
func definedDoubles(u []api.Unit) []api.Ref {
	var l []api.Ref
	decls := project.Decls(u)
	for i, d := range decls {
		if slices.ContainsFunc(decls[:i], func(c api.Decl) bool { return isDouble(u, c, d) }) {
			l = append(l, d.At)
		}
	}
	return l
}

// wantDefined compares all functions with their definitions, Resolve and Visible at all nodes.
func wantDefined(t *testing.T, u []api.Unit) {
	t.Helper()
	uses := definedUses(u)
	if got := scope.Uses(u); !slices.Equal(got, uses) {
		t.Fatalf("Uses = %v, want %v in %v", got, uses, u)
	}
	byNode := map[api.Ref]api.Use{}
	var unbound []api.Ref
	for _, x := range uses {
		byNode[x.At] = x
		if !x.Bound {
			unbound = append(unbound, x.At)
		}
	}
	if got := scope.Unbound(u); !slices.Equal(got, unbound) {
		t.Fatalf("Unbound = %v, want %v in %v", got, unbound, u)
	}
	if got, want := scope.Doubles(u), definedDoubles(u); !slices.Equal(got, want) {
		t.Fatalf("Doubles = %v, want %v in %v", got, want, u)
	}
	for i, x := range u {
		for k := -1; k <= tree.Size(x.Tree); k++ {
			r := api.Ref{Unit: i, Node: k}
			if d, ok := scope.Resolve(u, r); d != byNode[r].Decl || ok != byNode[r].Bound {
				t.Fatalf("Resolve(%v) = %v, %t, want %v in %v", r, d, ok, byNode[r], u)
			}
			var want []string
			if k >= 0 && k < tree.Size(x.Tree) && !x.Broken {
				want = definedVisible(u, r)
			}
			if got := scope.Visible(u, r); !slices.Equal(got, want) {
				t.Fatalf("Visible(%v) = %q, want %q in %v", r, got, want, u)
			}
		}
	}
}

// allLists returns all lists of trees that have this number of nodes together, each of them with the kind and the text of one of these nodes.
func allLists(size int, of []api.Node) [][]api.Node {
	if size == 0 {
		return [][]api.Node{nil}
	}
	var l [][]api.Node
	for first := 1; first <= size; first++ {
		rest := allLists(size-first, of)
		for _, kids := range allLists(first-1, of) {
			for _, n := range of {
				for _, others := range rest {
					l = append(l, append([]api.Node{node(n.Kind, n.Text, kids...)}, others...))
				}
			}
		}
	}
	return l
}

// anyKind returns the kind of a kid of a node: mostly one that is usual there.
func anyKind(r *rand.Rand, parent int) int {
	usual := map[int][]int{
		api.KdFunc:   {api.KdParams, api.KdParams, api.KdBlock, api.KdBlock, api.KdBlock},
		api.KdParams: {api.KdParam},
		api.KdBlock:  {api.KdLet, api.KdLet, api.KdName, api.KdName, api.KdSet, api.KdBlock, api.KdWhile, api.KdFunc},
		api.KdLet:    {api.KdName, api.KdUnary},
		api.KdWhile:  {api.KdName, api.KdBlock, api.KdBlock},
		api.KdClass:  {api.KdBase, api.KdFunc},
	}
	l := usual[parent]
	switch {
	case r.Intn(10) == 0:
		return r.Intn(api.Kinds+4) - 2
	case l == nil || r.Intn(10) == 0:
		l = []int{api.KdFunc, api.KdFunc, api.KdFunc, api.KdBlock, api.KdBlock, api.KdParams, api.KdParam, api.KdLet, api.KdName, api.KdClass, api.KdConst}
	}
	return l[r.Intn(len(l))]
}

// anyTree returns a tree of nodes of all kinds and of none, with few different texts, that has at most this many levels.
func anyTree(r *rand.Rand, kind, levels int) api.Node {
	texts := []string{"a", "a", "a", "a", "a", "b", "b", "b", "int", "bool", "é\xff\n"}
	n := node(kind, texts[r.Intn(len(texts))])
	if kind == api.KdConst && r.Intn(2) == 0 {
		n.Text = "c" + n.Text // otherwise, constants would bind nearly everything
	}
	if r.Intn(3) == 0 {
		n.Gaps = []string{" ", "x"}[:r.Intn(3)]
	}
	kids := r.Intn(3)
	if kind == api.KdFunc || kind == api.KdBlock {
		kids = 1 + r.Intn(6)
	}
	if levels > 1 {
		for range kids {
			n.Kids = append(n.Kids, anyTree(r, anyKind(r, kind), levels-1))
		}
	}
	return n
}

// anyUnits returns units with such trees, some of them broken.
func anyUnits(seed int64, count, levels int) []api.Unit {
	r := rand.New(rand.NewSource(seed))
	var u []api.Unit
	for range count {
		u = append(u, api.Unit{Path: []string{"", "a", "b", "/"}[r.Intn(4)], Text: []string{"", "fn f() int { }", "fn"}[r.Intn(3)], Tree: anyTree(r, anyKind(r, 0), levels), Broken: r.Intn(5) == 0})
	}
	return u
}

// anyTrees are lists of units with trees of all kinds of nodes.
func anyTrees() [][]api.Unit {
	var l [][]api.Unit
	for seed := range int64(500) {
		l = append(l, anyUnits(seed, 1+int(seed)%3, 3+int(seed)%3))
	}
	return l
}
