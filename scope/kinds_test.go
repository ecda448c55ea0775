package scope_test

import (
	"math"
	"slices"
	"testing"

	"treemerge/api"
	"treemerge/scope"
	"treemerge/tree"
)

// The tests of P12.1 and P12.2 for nodes of every kind, and for the numbers of units and nodes.

// kinds are all kinds of nodes, and numbers that are none.
func kinds() []int {
	l := []int{math.MinInt, -api.KdName, math.MaxInt}
	for kind := -2; kind < api.Kinds+3; kind++ {
		l = append(l, kind)
	}
	return l
}

// isBound reports whether the last node of the units that is a use is bound.
func isBound(u []api.Unit) bool {
	l := scope.Uses(u)
	return len(l) > 0 && l[len(l)-1].Bound
}

// P12.1: which kinds are uses, and of which declarations, in units that declare everything.
func TestKindsOfUses(t *testing.T) {
	all := file(function("x"), class("x"), constant("x"))
	want := map[int]string{api.KdName: "const x", api.KdSet: "const x", api.KdCall: "fn x", api.KdNew: "class x", api.KdType: "class x", api.KdBase: "class x"}
	for _, kind := range kinds() {
		got := ""
		u := units(all, file(node(kind, "x")))
		for _, y := range scope.Uses(u) {
			got += place(u, y.Decl)
			if y.At != (api.Ref{Unit: 1, Node: 1}) || !y.Bound {
				t.Errorf("%d: the use is %v", kind, y)
			}
		}
		if got != want[kind] {
			t.Errorf("%d: it refers to %q, want %q", kind, got, want[kind])
		}
		d, ok := scope.Resolve(u, api.Ref{Unit: 1, Node: 1})
		if ok != (want[kind] != "") || !ok && d != (api.Ref{}) || ok && place(u, d) != want[kind] {
			t.Errorf("%d: Resolve = %v, %t, want %q", kind, d, ok, want[kind])
		}
		bare := units(node(kind, "x"))
		if d, ok := scope.Resolve(bare, api.Ref{}); d != (api.Ref{}) || ok {
			t.Errorf("%d: Resolve = %v, %t without declarations", kind, d, ok)
		}
		if n := len(scope.Unbound(bare)); n != len(scope.Uses(bare)) || (n == 1) != (want[kind] != "") || n > 1 {
			t.Errorf("%d: %d uses are not bound", kind, n)
		}
	}
}

// P12.1: of the kinds of the nodes that declare a variable, and of those around it, each has to be the right one.
func TestKindsOfNodesAroundVariables(t *testing.T) {
	for _, kind := range kinds() {
		for _, x := range []struct {
			name string
			tree api.Node
			want bool
		}{
			{"the node of a variable", block(node(kind, "x"), use("x")), kind == api.KdLet || kind == api.KdConst},
			{"the node around a variable", node(kind, "y", let("x"), use("x")), kind == api.KdBlock},
			{"a node between", block(let("x"), node(kind, "y", use("x"))), kind != api.KdFunc},
			{"two nodes between", block(let("x"), node(kind, "y", node(api.KdWhile, "", block(use("x"))))), kind != api.KdFunc},
			{"a node around the block", node(kind, "y", block(let("x"), use("x"))), true},
			{"a node around a variable in a block", block(node(kind, "y", let("x")), use("x")), false},
			{"the node of a parameter", function("f", params(node(kind, "x")), block(use("x"))), kind == api.KdParam || kind == api.KdConst},
			{"the node around a parameter", function("f", node(kind, "y", param("x")), block(use("x"))), kind == api.KdParams},
			{"the node of the function", node(kind, "f", params(param("x")), block(use("x"))), kind == api.KdFunc},
			{"the node of the body", function("f", params(param("x")), node(kind, "y", use("x"))), kind == api.KdBlock},
			{"a node in the body", function("f", params(param("x")), block(node(kind, "y", use("x")))), kind != api.KdFunc},
			{"a node around the body", function("f", params(param("x")), node(kind, "y", block(use("x")))), kind == api.KdBlock},
			{"a node around the parameters", function("f", node(kind, "y", params(param("x"))), block(use("x"))), false},
			{"a node around a parameter in the list", function("f", params(node(kind, "y", param("x"))), block(use("x"))), false},
		} {
			if got := isBound(units(x.tree)); got != x.want {
				t.Errorf("%d as %s: bound is %t, want %t", kind, x.name, got, x.want)
			}
			wantDefined(t, units(x.tree))
		}
	}
}

// numbers are numbers of units or nodes around a count.
func numbers(count int) []int {
	l := []int{math.MinInt, math.MinInt + 1, math.MinInt32, -count, -2, -1, 1 << 16, 1<<31 - 1, 1 << 31, 1 << 32, math.MaxInt - 1, math.MaxInt}
	for i := range count + 3 {
		l = append(l, i, 1<<32+i)
	}
	return l
}

// P12.2: Resolve and Visible at all nodes of all units, and at numbers of which there is no unit or node.
func TestNumbers(t *testing.T) {
	u := load(t, "const a = 1; fn f(b int) int { let c = a; return c; }", "", "class A : B { fn m(d A) A { return a; } }")
	broken := u[0]
	broken.Broken = true
	for _, u := range [][]api.Unit{nil, {}, u, u[:1], {broken}, {broken, u[2], broken}, {{}}, units(use("x"))} {
		for _, unit := range numbers(len(u)) {
			size := 0
			if unit >= 0 && unit < len(u) {
				size = tree.Size(u[unit].Tree)
			}
			for _, k := range numbers(size) {
				r := api.Ref{Unit: unit, Node: k}
				isNode := size > 0 && !u[unit].Broken && k >= 0 && k < size
				var names []string
				var want api.Use
				if isNode {
					names = definedVisible(u, r)
				}
				for _, x := range definedUses(u) {
					if x.At == r {
						want = x
					}
				}
				if got := scope.Visible(u, r); !slices.Equal(got, names) {
					t.Errorf("Visible(%v) = %q, want %q", r, got, names)
				}
				if d, ok := scope.Resolve(u, r); d != want.Decl || ok != want.Bound {
					t.Errorf("Resolve(%v) = %v, %t, want %v, %t", r, d, ok, want.Decl, want.Bound)
				}
			}
		}
	}
}

// P12.1, P12.3: the declarations of other units, before and behind the use, and broken units between them, which have no nodes even if they have trees.
func TestUnits(t *testing.T) {
	all := file(function("f"), class("A"), constant("k"))
	calls := file(node(api.KdCall, "f"), node(api.KdNew, "A"), use("k"))
	hidden := file(function("g", params(param("k")), block(let("x"))), block(let("k")))
	good := func(n api.Node) api.Unit { return api.Unit{Path: "y", Text: "fn", Tree: n} }
	broken := api.Unit{Path: "x", Text: "fn f() int { }\n", Tree: all, Broken: true}
	uses := api.Unit{Path: "x", Tree: calls, Broken: true}
	bound := func(unit, decls int) []api.Use {
		var l []api.Use
		for k := 1; k <= 3; k++ {
			l = append(l, api.Use{At: api.Ref{Unit: unit, Node: k}, Decl: api.Ref{Unit: decls, Node: k}, Bound: true})
		}
		return l
	}
	unbound := func(unit int) []api.Use {
		var l []api.Use
		for k := 1; k <= 3; k++ {
			l = append(l, api.Use{At: api.Ref{Unit: unit, Node: k}})
		}
		return l
	}
	for i, x := range []struct {
		u    []api.Unit
		want []api.Use
	}{
		{nil, nil},
		{[]api.Unit{}, nil},
		{[]api.Unit{{}}, nil},
		{[]api.Unit{good(all)}, nil},
		{[]api.Unit{good(calls)}, unbound(0)},
		{[]api.Unit{uses}, nil},
		{[]api.Unit{good(all), good(calls)}, bound(1, 0)},
		{[]api.Unit{good(calls), good(all)}, bound(0, 1)},
		{[]api.Unit{good(all), good(calls), good(all)}, bound(1, 0)},
		{[]api.Unit{good(calls), good(all), good(all)}, bound(0, 1)},
		{[]api.Unit{good(calls), good(calls), good(all)}, append(bound(0, 2), bound(1, 2)...)},
		{[]api.Unit{broken, good(calls)}, unbound(1)},
		{[]api.Unit{good(calls), broken}, unbound(0)},
		{[]api.Unit{broken, good(calls), broken, good(all)}, bound(1, 3)},
		{[]api.Unit{uses, good(all), uses, good(calls), uses}, bound(3, 1)},
		{[]api.Unit{{}, good(calls), {}, good(all)}, bound(1, 3)},
		{[]api.Unit{good(hidden), good(calls)}, unbound(1)},
		{[]api.Unit{good(calls), good(hidden), good(all)}, bound(0, 2)},
	} {
		if got := scope.Uses(x.u); !slices.Equal(got, x.want) {
			t.Errorf("%d: Uses = %v, want %v", i, got, x.want)
		}
		wantDefined(t, x.u)
	}
}

// P12.1: names of all sorts are compared byte by byte.
func TestNames(t *testing.T) {
	names := []string{"", "x", "X", "x ", " x", "xx", "1", "fn", "int", "x\x00", "é", "e\u0301", "\xff", "\xfe", "x.y", "x\n"}
	for i, s := range names {
		for j, name := range names {
			u := units(file(block(let(s), use(name)), function("f", params(param(s)), block(use(name)))), file(function(s), class(s), node(api.KdCall, name), node(api.KdNew, name)), file(constant(s+"!"), use(name+"!")))
			for k, x := range scope.Uses(u) {
				if x.Bound != (i == j) {
					t.Errorf("use %d of %q with the declaration of %q: bound is %t", k, name, s, x.Bound)
				}
			}
			if n := len(scope.Uses(u)); n != 5 {
				t.Errorf("%q, %q: there are %d uses", s, name, n)
			}
		}
	}
	l := units(file(constant("a1"), use("a1"), use("a"), use("a11")))
	wantUses(t, "prefixes", l, "name a1 > const a1, name a > -, name a11 > -")
}
