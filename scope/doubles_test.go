package scope_test

import (
	"slices"
	"testing"

	"treemerge/api"
	"treemerge/scope"
)

// The tests of P12.3 for Doubles.

// P12.3: doubles of each kind.
func TestDoublesOfFiles(t *testing.T) {
	for _, x := range []struct {
		name    string
		sources []string
		want    string
	}{
		{"no units", nil, ""},
		{"an empty file", []string{""}, ""},
		{"the example", []string{"const a = 1; fn f(b int) int { let c = a; if b < c { let a = b; c = a; } return a; } class A : B { }"}, ""},
		{"the example with doubles", []string{"fn f(x int, x int) int { let y = 1; let y = 2; return y; }"}, "param x#1, let y#1"},
		{"functions", []string{"fn f() int { } fn g() int { } fn f() bool { } fn f() int { }"}, "fn f#1, fn f#2"},
		{"functions of two files", []string{"fn f() int { } fn g() int { }", "fn g() int { } fn h() int { }", "fn h() int { } fn f() int { }"}, "fn g#1, fn h#1, fn f#1"},
		{"classes", []string{"class A { } class B : A { } class A : B { }", "class A { } class B { }"}, "class A#1, class A#2, class B#1"},
		{"constants", []string{"const a = 1; const a = 1; const b = a;", "const b = 2; const a = b;"}, "const a#1, const b#1, const a#2"},
		{"one name of each kind", []string{"const x = 1; fn x(x int) int { let x = 1; } class x { fn x(x int) int { let x = 1; } }"}, ""},
		{"parameters", []string{"fn f(a int, b int, a bool, b int, a int, c int) int { }"}, "param a#1, param b#1, param a#2"},
		{"parameters of two functions", []string{"fn f(a int) int { } fn g(a int) int { } class C { fn m(a int) int { } fn n(a int) int { } }"}, ""},
		{"parameters of doubles", []string{"fn f(a int, a int) int { } fn f(a int, b int) int { }"}, "param a#1, fn f#1"},
		{"a parameter and a variable", []string{"fn f(a int) int { let a = 1; }"}, ""},
		{"variables", []string{"fn f() int { let a = 1; let b = 1; let a = 2; b = 1; let b = 3; let a = 3; }"}, "let a#1, let b#1, let a#2"},
		{"variables of blocks in each other", []string{"fn f() int { let a = 1; if true { let a = 2; if true { let a = 3; } let a = 4; } else { let a = 5; } let b = 1; }"}, "let a#3"},
		{"variables with a block between", []string{"fn f() int { let a = 1; while true { let a = 2; let b = 1; } let a = 3; let b = 2; }"}, "let a#2"},
		{"variables of two functions", []string{"fn f() int { let a = 1; } fn g() int { let a = 1; }", "fn h() int { let a = 1; }"}, ""},
		{"methods", []string{"class C { fn m() int { } fn n() int { } fn m() int { } fn m() int { } }"}, "fn m#1, fn m#2"},
		{"methods of two classes", []string{"class C { fn m() int { } } class D : C { fn m() int { } }", "class E { fn m() int { } }"}, ""},
		{"methods of classes of one name", []string{"class C { fn m() int { } } class C { fn m() int { } fn m() int { } }", "class C { fn m() int { } }"}, "class C#1, fn m#2, class C#2"},
		{"a method and functions", []string{"fn m() int { } class C { fn m() int { } } fn m() int { }", "class D { fn m() int { } } fn m() int { }"}, "fn m#2, fn m#4"},
		{"letters of both cases", []string{"fn f(a int, A int) int { let b = 1; let B = 1; } fn F() int { }"}, ""},
	} {
		u := load(t, x.sources...)
		if got := places(u, scope.Doubles(u)); got != x.want {
			t.Errorf("%s: Doubles = %s, want %s", x.name, got, x.want)
		}
	}
}

// P12.3: doubles in trees that are not well-formed.
func TestDoublesOfTrees(t *testing.T) {
	for _, x := range []struct {
		name string
		u    []api.Unit
		want string
	}{
		{"the zero tree", units(api.Node{}, api.Node{}), ""},
		{"variables alone", units(let("x"), let("x")), ""},
		{"parameters alone", units(param("x"), param("x")), ""},
		{"functions alone", units(function("x"), function("x")), "fn x#1"},
		{"classes alone", units(class("x"), class("x")), "class x#1"},
		{"constants alone", units(constant("x"), constant("x")), "const x#1"},
		{"variables at the same place of two units", units(block(let("x")), block(let("x")), block(let("x"), let("x"))), "let x#3"},
		{"parameters at the same place of two units", units(params(param("x")), params(param("x"))), ""},
		{"methods at the same place of two units", units(class("A", function("x")), class("B", function("x"))), ""},
		{"variables of other nodes", units(file(let("x"), let("x"), node(api.KdIf, "", let("x"), param("x"), let("x")))), "let x#1, let x#3"},
		{"parameters of other nodes", units(block(param("x"), let("x"), param("x"))), "param x#1"},
		{"parameters of two lists", units(function("f", params(param("x")), params(param("x"), param("x")))), "param x#2"},
		{"variables in each other", units(let("x", let("x", let("x"), let("x")))), "let x#3"},
		{"parameters in each other", units(param("x", param("x"))), ""},
		{"functions in each other", units(function("x", function("x", function("x")))), "fn x#1, fn x#2"},
		{"functions of two parents", units(function("f", block(function("x"))), function("g", block(function("x")))), "fn x#1"},
		{"methods and inner functions", units(class("A", function("x", function("x")), block(function("x")), function("x"))), "fn x#2, fn x#3"},
		{"a method as the first node", units(function("x"), class("A", function("x"), function("x"))), "fn x#2"},
		{"classes in each other", units(class("x", class("x"))), "class x#1"},
		{"constants in each other", units(constant("x", constant("x"))), "const x#1"},
		{"constants of two parents", units(block(constant("x")), block(constant("x"))), "const x#1"},
		{"empty names", units(file(function(""), function(""), class("", function(""), function("")), class(""), constant(""), constant(""), let(""), let(""), param(""), param(""))), "fn#1, fn#3, class#1, const#1, let#1, param#1"},
		{"names that are joined", units(file(class("A.m", function("x")), class("A", function("m.x"), function("m"), function("x")))), ""},
		{"broken units", []api.Unit{{Tree: function("x"), Broken: true}, {Tree: file(class("x"), function("x"))}, {Tree: file(function("x"), class("x")), Broken: true}, {Tree: class("x")}}, "class x#1"},
		{"all units broken", []api.Unit{{Tree: file(function("x"), function("x")), Broken: true}}, ""},
	} {
		if got := places(x.u, scope.Doubles(x.u)); got != x.want {
			t.Errorf("%s: Doubles = %s, want %s", x.name, got, x.want)
		}
		wantDefined(t, x.u)
	}
}

// P12.3: two nodes of each kind with one name and one parent, with two parents, and in two units.
func TestKindsOfDoubles(t *testing.T) {
	for _, kind := range kinds() {
		n := node(kind, "x")
		everywhere := kind == api.KdFunc || kind == api.KdClass || kind == api.KdConst
		together := everywhere || kind == api.KdParam || kind == api.KdLet
		for i, x := range []struct {
			u      []api.Unit
			double bool
			at     api.Ref
		}{
			{units(block(n, n)), together, api.Ref{Node: 2}},
			{units(file(block(n), block(n))), everywhere, api.Ref{Node: 4}},
			{units(block(n), block(n)), everywhere, api.Ref{Unit: 1, Node: 1}},
			{units(class("C", n, n)), together, api.Ref{Node: 2}},
			{units(file(class("C", n), class("D", n))), everywhere && kind != api.KdFunc, api.Ref{Node: 4}},
			{units(class("C", n), class("D", n)), everywhere && kind != api.KdFunc, api.Ref{Unit: 1, Node: 1}},
			{units(block(n, node(kind, "y"))), false, api.Ref{}},
		} {
			var want []api.Ref
			if x.double {
				want = []api.Ref{x.at}
			}
			if got := scope.Doubles(x.u); !slices.Equal(got, want) {
				t.Errorf("%d, %d: Doubles = %v, want %v", kind, i, got, want)
			}
		}
	}
}
