package scope_test

import (
	"slices"
	"strconv"
	"testing"

	"treemerge/api"
	"treemerge/scope"
	"treemerge/tree"
)

// The tests of P12.1 to P12.6 for many trees, and for great ones.

// wantEach compares all functions with their definitions for each tree as the only one of its project.
func wantEach(t *testing.T, l []api.Node) {
	t.Helper()
	for _, n := range l {
		wantDefined(t, units(n))
		if t.Failed() {
			return
		}
	}
}

// within returns the trees that around makes of all lists of at most this many nodes, each of them like one of these.
func within(most int, around func(l ...api.Node) api.Node, of ...api.Node) []api.Node {
	var trees []api.Node
	for size := range most + 1 {
		for _, l := range allLists(size, of) {
			trees = append(trees, around(l...))
		}
	}
	return trees
}

// P12.1 to P12.3: all trees of few nodes of the kinds that matter, all of one name.
func TestAllSmallTrees(t *testing.T) {
	whole := func(l ...api.Node) api.Node { return file(l...) }
	wantEach(t, within(4, whole, function("x"), params(), param("x"), block(), let("x"), use("x")))
	wantEach(t, within(3, whole, function("x"), class("x"), constant("x"), node(api.KdSet, "x"), node(api.KdCall, "x"), node(api.KdNew, "x"), node(api.KdType, "x"), node(api.KdBase, "x")))
}

// P12.1 to P12.3: all lists of few nodes at the places of a function where variables are visible, and where they are not.
func TestAllSmallParts(t *testing.T) {
	x, of := param("x"), []api.Node{function("f"), params(), block(), let("x"), use("x")}
	inBody := func(l ...api.Node) api.Node {
		return function("f", params(x), block(let("y"), block(slices.Concat(l, []api.Node{use("x"), use("y")})...), use("x")))
	}
	inFunction := func(l ...api.Node) api.Node {
		return file(function("f", slices.Concat([]api.Node{params(x)}, l, []api.Node{block(use("x"))})...), use("x"))
	}
	inBlock := func(l ...api.Node) api.Node {
		return block(let("x"), block(slices.Concat(l, []api.Node{use("x"), let("x")})...), use("x"))
	}
	for _, around := range []func(l ...api.Node) api.Node{inBody, inFunction, inBlock} {
		wantEach(t, within(3, around, of...))
	}
	wantEach(t, within(5, func(l ...api.Node) api.Node { return block(l...) }, block(), let("x"), use("x")))
	wantEach(t, within(5, func(l ...api.Node) api.Node { return function("f", l...) }, params(), x, block(), use("x")))
}

// P12.1 to P12.3: trees of all kinds of nodes, also without a kind, and with few different names.
func TestAnyTrees(t *testing.T) {
	variables, others, unbound, doubles := 0, 0, 0, 0
	for _, u := range anyTrees() {
		wantDefined(t, u)
		for _, x := range scope.Uses(u) {
			if n, _ := tree.At(u[x.Decl.Unit].Tree, x.Decl.Node); x.Bound && (n.Kind == api.KdLet || n.Kind == api.KdParam) {
				variables++
			} else if x.Bound {
				others++
			} else {
				unbound++
			}
		}
		doubles += len(scope.Doubles(u))
	}
	if variables < 300 || others < 300 || unbound < 300 || doubles < 300 {
		t.Errorf("only %d uses refer to variables and %d to others, %d are unbound, and %d declarations are doubles", variables, others, unbound, doubles)
	}
}

// isAround reports whether the node p is around the node x of a table.
func isAround(rows []api.Row, p, x int) bool {
	_, ok := toward(rows, p, x)
	return ok
}

// P12.4: a use that is bound refers to a declaration of its name and of a kind that it can refer to; that of a variable is before it in the same unit, and every node around a KdLet is around the use.
func TestResolution(t *testing.T) {
	declaring := map[int][]int{
		api.KdCall: {api.KdFunc}, api.KdType: {api.KdClass}, api.KdBase: {api.KdClass}, api.KdNew: {api.KdClass},
		api.KdName: {api.KdParam, api.KdLet, api.KdConst}, api.KdSet: {api.KdParam, api.KdLet, api.KdConst},
	}
	for _, u := range anyTrees() {
		for _, x := range scope.Uses(u) {
			if !x.Bound {
				continue
			}
			rows := tree.Rows(u[x.At.Unit].Tree)
			use, d := rows[x.At.Node], tree.Rows(u[x.Decl.Unit].Tree)[x.Decl.Node]
			if d.Text != use.Text || !slices.Contains(declaring[use.Kind], d.Kind) || u[x.Decl.Unit].Broken {
				t.Fatalf("%v refers to %v", use, d)
			}
			if d.Kind != api.KdParam && d.Kind != api.KdLet {
				continue
			}
			if x.Decl.Unit != x.At.Unit || x.Decl.Node >= x.At.Node || isAround(rows, x.Decl.Node, x.At.Node) {
				t.Fatalf("the use %v refers to %v", x.At, x.Decl)
			}
			for p := d.Parent; d.Kind == api.KdLet && p >= 0; p = rows[p].Parent {
				if !isAround(rows, p, x.At.Node) {
					t.Fatalf("the node %d is around the variable %v, but not around the use %v", p, x.Decl, x.At)
				}
			}
		}
	}
}

// P12.5: Resolve agrees with Uses at every node, Unbound lists the uses that are not bound, and a variable or a constant is bound exactly if its name is visible.
func TestAgreement(t *testing.T) {
	for _, u := range anyTrees() {
		unbound := scope.Unbound(u)
		byNode := map[api.Ref]api.Use{}
		for _, x := range scope.Uses(u) {
			byNode[x.At] = x
			if !x.Bound && x.Decl != (api.Ref{}) {
				t.Fatalf("%v is not bound", x)
			}
		}
		for i, x := range u {
			for k, r := range tree.Rows(x.Tree) {
				at := api.Ref{Unit: i, Node: k}
				y, isUse := byNode[at]
				if d, ok := scope.Resolve(u, at); d != y.Decl || ok != y.Bound {
					t.Fatalf("Resolve(%v) = %v, %t, Uses has %v", at, d, ok, y)
				}
				if slices.Contains(unbound, at) != (isUse && !y.Bound) {
					t.Fatalf("Unbound = %v, Uses has %v", unbound, y)
				}
				if (r.Kind == api.KdName || r.Kind == api.KdSet) && slices.Contains(scope.Visible(u, at), r.Text) != y.Bound {
					t.Fatalf("Visible(%v) = %q, Uses has %v", at, scope.Visible(u, at), y)
				}
			}
		}
	}
}

// regapped returns the units with trees whose gaps change makes.
func regapped(u []api.Unit, change func(i int, l []string) []string) []api.Unit {
	u = slices.Clone(u)
	for i := range u {
		rows := tree.Rows(u[i].Tree)
		for k := range rows {
			rows[k].Gaps = change(k, rows[k].Gaps)
		}
		u[i].Tree, _ = tree.Build(rows)
	}
	return u
}

// results returns what all functions return for units, at all of their nodes.
func results(u []api.Unit) string {
	s := listedRefs(scope.Unbound(u)) + " " + listedRefs(scope.Doubles(u))
	for _, x := range scope.Uses(u) {
		s += " " + listedRefs([]api.Ref{x.At, x.Decl}) + strconv.FormatBool(x.Bound)
	}
	for i, x := range u {
		for k := range tree.Size(x.Tree) {
			at := api.Ref{Unit: i, Node: k}
			d, ok := scope.Resolve(u, at)
			s += " " + listedRefs([]api.Ref{d}) + strconv.FormatBool(ok)
			for _, name := range scope.Visible(u, at) {
				s += strconv.Quote(name)
			}
		}
	}
	return s
}

// listedRefs writes nodes by their numbers.
func listedRefs(l []api.Ref) string {
	s := ""
	for _, at := range l {
		s += strconv.Itoa(at.Unit) + "/" + strconv.Itoa(at.Node) + ","
	}
	return s
}

// P12.6: trees with all, some and none of their gaps, and with wrong ones.
func TestFormatting(t *testing.T) {
	const source = "const a = 1;\n// c\nfn f ( b int ) int { let c = a; if b < c { let a = b; c = a; } return a; }  class A : B { fn m(b A) A { return b; } fn m() int { } }"
	for i, u := range append(anyTrees()[:60], load(t, source, "// x\n", source)) {
		want := results(u)
		for name, change := range map[string]func(k int, l []string) []string{
			"no gaps":     func(k int, l []string) []string { return nil },
			"some gaps":   func(k int, l []string) []string { return l[:len(l)*(k%2)] },
			"empty gaps":  func(k int, l []string) []string { return make([]string, len(l)) },
			"other gaps":  func(k int, l []string) []string { return slices.Repeat([]string{"// let a = 1;\n"}, len(l)) },
			"wrong gaps":  func(k int, l []string) []string { return []string{"let", "a", "x"}[:k%4%3] },
			"fewer gaps":  func(k int, l []string) []string { return l[:len(l)/2] },
			"the same":    func(k int, l []string) []string { return l },
			"longer gaps": func(k int, l []string) []string { return append(slices.Clone(l), "") },
		} {
			if got := results(regapped(u, change)); got != want {
				t.Fatalf("%d with %s: the results are %s, want %s", i, name, got, want)
			}
		}
	}
	a := load(t, source, "fn g() A { return f(a); }")
	b := load(t, "const a=1;fn f(b int)int{let c=a;if b<c{let a=b;c=a;}return a;}class A:B{fn m(b A)A{return b;}fn m()int{}}", "\n\n fn g ( ) A\n{ return f ( a ) ; } ")
	if results(a) != results(b) {
		t.Errorf("the results are %s and %s", results(a), results(b))
	}
}

// levels is the greatest number of levels of a tree for which the rules promise anything.
const levels = 1 << 16

// nested returns a tree of this many levels: next adds one to the tree, and gets the number of the levels below it.
func nested(count int, n api.Node, next func(i int, n api.Node) api.Node) api.Node {
	for i := 1; i < count; i++ {
		n = next(i, n)
	}
	return n
}

// wantAll checks that the units have so many uses, for each of which right holds, which gets its place among them.
func wantAll(t *testing.T, name string, u []api.Unit, count int, right func(i int, x api.Use) bool) {
	t.Helper()
	l := scope.Uses(u)
	if len(l) != count {
		t.Fatalf("%s: there are %d uses, want %d", name, len(l), count)
	}
	var unbound []api.Ref
	for i, x := range l {
		if !right(i, x) {
			t.Fatalf("%s: use %d is %v", name, i, x)
		}
		if !x.Bound {
			unbound = append(unbound, x.At)
		}
	}
	if !slices.Equal(scope.Unbound(u), unbound) {
		t.Errorf("%s: there are %d uses that are not bound", name, len(scope.Unbound(u)))
	}
	last := l[count-1]
	if d, ok := scope.Resolve(u, last.At); d != last.Decl || ok != last.Bound {
		t.Errorf("%s: Resolve(%v) = %v, %t, want %v", name, last.At, d, ok, last)
	}
}

// P12.1, P12.2: the deepest trees, with uses and variables at all of their levels.
func TestDeepTrees(t *testing.T) {
	bound := func(unit, node int) api.Ref { return api.Ref{Unit: unit, Node: node} }
	name := func(i int) string { return "x" + strconv.Itoa(i) }

	u := units(block(let("x"), nested(levels-1, use("x"), func(_ int, n api.Node) api.Node { return node(api.KdUnary, "-", n) })))
	wantAll(t, "operators", u, 1, func(_ int, x api.Use) bool { return x.Decl == bound(0, 1) })

	u = units(nested(levels, block(use("x")), func(_ int, n api.Node) api.Node { return block(let("x"), use("x"), n, use("x")) }))
	wantAll(t, "blocks of one name", u, 2*levels-1, func(i int, x api.Use) bool {
		if i < levels-1 {
			return x.Decl == bound(0, 3*i+1)
		}
		return x.Decl == bound(0, 3*(2*levels-2-max(i, levels))+1)
	})

	u = units(nested(levels, block(), func(i int, n api.Node) api.Node { return block(let(name(i)), use(name(levels-1)), n, use(name(i))) }))
	wantAll(t, "blocks of many names", u, 2*levels-2, func(i int, x api.Use) bool {
		if i < levels-1 {
			return x.Decl == bound(0, 1)
		}
		return x.Decl == bound(0, 3*(2*levels-3-i)+1)
	})
	if l := scope.Visible(u, bound(0, 3*(levels-1))); len(l) != levels-1 || !slices.IsSorted(l) {
		t.Errorf("at the innermost block, %d names are visible", len(l))
	}
	if l := scope.Visible(u, bound(0, 3*(levels-1)+1)); len(l) != levels-1 {
		t.Errorf("behind the innermost block, %d names are visible", len(l))
	}

	u = units(nested(levels/2, function("f"), func(i int, n api.Node) api.Node {
		return function("f", params(param("p"), param(name(i))), block(use("p"), use(name(i+1)), n, use(name(i))))
	}))
	wantAll(t, "functions", u, 3*(levels/2-1), func(i int, x api.Use) bool {
		const count = levels/2 - 1
		switch {
		case i >= 2*count:
			return x.Decl == bound(0, 7*(3*count-1-i)+3)
		case i%2 == 0:
			return x.Decl == bound(0, 7*(i/2)+2)
		}
		return x == api.Use{At: bound(0, 7*(i/2)+6)}
	})
	if l := scope.Visible(u, bound(0, 7*(levels/2-1))); !slices.Equal(l, []string{"p", name(1)}) {
		t.Errorf("at the innermost function, %q are visible", l)
	}

	u = units(file(), nested(levels/2, constant("k"), func(i int, n api.Node) api.Node { return class("A", function("m", let("y"), let("y"), n)) }))
	if l := scope.Doubles(u); len(l) != 2*(levels/2-1)-1 || l[0] != bound(1, 3) || l[len(l)-1] != bound(1, 4*(levels/2-2)+3) {
		t.Errorf("there are %d doubles", len(l))
	}
}

// P12.1 to P12.3: the widest trees.
func TestWideTrees(t *testing.T) {
	const count = 50000
	ref := func(node int) api.Ref { return api.Ref{Node: node} }
	repeated := func(f func(i int) []api.Node) []api.Node {
		var l []api.Node
		for i := range count {
			l = append(l, f(i)...)
		}
		return l
	}
	name := func(i int) string { return "x" + strconv.Itoa(i) }

	u := units(block(repeated(func(i int) []api.Node { return []api.Node{let("x"), use("x"), block(let("x"), use("x"))} })...))
	wantAll(t, "variables of one name", u, 2*count, func(i int, x api.Use) bool {
		return x.Decl == ref(1) && i%2 == 0 || x.Decl == ref(5*(i/2)+4) && i%2 == 1
	})
	if l := scope.Doubles(u); len(l) != count-1 || l[0] != ref(6) {
		t.Errorf("there are %d doubles", len(l))
	}

	u = units(block(repeated(func(i int) []api.Node { return []api.Node{let(name(i)), use(name(i / 2)), use(name(i + 1))} })...))
	wantAll(t, "variables of many names", u, 2*count, func(i int, x api.Use) bool {
		return x.Decl == ref(3*(i/2/2)+1) && i%2 == 0 || !x.Bound && i%2 == 1
	})
	if l := scope.Visible(u, ref(3*count)); len(l) != count {
		t.Errorf("%d names are visible", len(l))
	}

	u = units(function("f", repeated(func(i int) []api.Node {
		return []api.Node{params(param("p"), param(name(i))), block(use("p"), use(name(i)), use(name(i+1)))}
	})...))
	wantAll(t, "parameters", u, 3*count, func(i int, x api.Use) bool {
		switch i % 3 {
		case 0:
			return x.Decl == ref(2)
		case 1:
			return x.Decl == ref(7*(i/3)+3)
		}
		return !x.Bound
	})
	if l := scope.Doubles(u); len(l) != 0 {
		t.Errorf("there are %d doubles", len(l))
	}

	u = units(file(repeated(func(i int) []api.Node {
		return []api.Node{use(name(i)), node(api.KdCall, name(count-1-i)), constant(name(i)), function(name(i))}
	})...))
	wantAll(t, "declarations of the project", u, 2*count, func(i int, x api.Use) bool {
		return i%2 == 0 && x.Decl == ref(4*(i/2)+3) || i%2 == 1 && x.Decl == ref(4*(count-1-i/2)+4)
	})
}
