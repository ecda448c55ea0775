package scope_test

import (
	"slices"
	"strings"
	"testing"

	"treemerge/api"
	"treemerge/scope"
	"treemerge/tree"
)

// The tests of P12.2 for Visible.

// wantVisible checks the names that are visible at the node that place writes like this.
func wantVisible(t *testing.T, u []api.Unit, s, want string) {
	t.Helper()
	if got := strings.Join(scope.Visible(u, at(t, u, s)), " "); got != want {
		t.Errorf("Visible at %s = %q, want %q", s, got, want)
	}
}

// P12.2: the example of the chapter, at all of its nodes.
func TestVisibleOfExample(t *testing.T) {
	u := load(t, "const a = 1; fn f(b int) int { let c = a; if b < c { let a = b; c = a; } return a; } class A : B { }")
	names := []string{
		"file a", "const a a", "int 1 a", "fn f a", "params a", "param b a", "type int a", "type int#1 a", "block a b", "let c a b", "name a a b",
		"if a b c", "binary < a b c", "name b a b c", "name c a b c", "block#1 a b c", "let a a b c", "name b#1 a b c", "set c a b c", "name a#1 a b c", "else a b c",
		"return a b c", "name a#2 a b c", "class A a", "base B a",
	}
	for k, s := range names {
		r := api.Ref{Node: k}
		if got := place(u, r) + " " + strings.Join(scope.Visible(u, r), " "); got != s {
			t.Errorf("%q, want %q", got, s)
		}
	}
	if n := tree.Size(u[0].Tree); n != len(names) {
		t.Errorf("there are %d nodes", n)
	}
}

// P12.2: names of blocks, functions and constants together.
func TestVisible(t *testing.T) {
	u := load(t,
		"const z = 1; const k = 2; fn f(p int, q int) int { let z = 1; let y = 2; let y = 3; while p { let b = 1; let a = 2; b = a; } let x = 4; return x; }",
		"fn g(p int) int { return p; } class C : D { fn m(c int) int { let d = c; return d; } fn n() int { return 1; } } const b = 1; const k = 3;",
	)
	for s, want := range map[string]string{
		"file": "b k z", "const z": "b k z", "fn f": "b k z", "params": "b k z", "param q": "b k z", "block": "b k p q z",
		"let z": "b k p q z", "let y": "b k p q z", "let y#1": "b k p q y z", "int 3": "b k p q y z", "while": "b k p q y z", "name p": "b k p q y z",
		"block#1": "b k p q y z", "let b": "b k p q y z", "let a": "b k p q y z", "set b": "a b k p q y z", "name a": "a b k p q y z",
		"let x": "b k p q y z", "return": "b k p q x y z", "name x": "b k p q x y z",
		"file#1": "b k z", "fn g": "b k z", "block#2": "b k p z", "name p#1": "b k p z", "class C": "b k z", "base D": "b k z", "fn m": "b k z",
		"param c": "b k z", "block#3": "b c k z", "name c": "b c k z", "name d": "b c d k z", "return#2": "b c d k z", "fn n": "b k z", "block#4": "b k z", "return#3": "b k z", "const b": "b k z", "const k#1": "b k z",
	} {
		wantVisible(t, u, s, want)
	}
	u[1].Broken = true
	wantVisible(t, u, "return", "k p q x y z")
	wantVisible(t, u, "file", "k z")
	u[0].Broken, u[1].Broken = true, false
	wantVisible(t, u, "name d", "b c d k")
	for _, r := range []api.Ref{{}, {Node: 1}, {Unit: 2}, {Unit: -1}, {Unit: 1, Node: -1}, {Unit: 1, Node: tree.Size(u[1].Tree)}} {
		if got := scope.Visible(u, r); len(got) != 0 {
			t.Errorf("Visible(%v) = %q", r, got)
		}
	}
}

// P12.2: a node of each kind, as the kid of a block behind a variable, in a function in another one.
func TestVisibleAtKinds(t *testing.T) {
	for _, kind := range kinds() {
		inner := function("g", params(param("c")), block(let("d"), node(kind, "n", node(kind, "n"))))
		u := units(function("f", params(param("a")), block(let("b"), inner)), constant("k"))
		rows := tree.Rows(u[0].Tree)
		last := len(rows) - 1
		var wantInner []string
		if kind == api.KdConst {
			wantInner = []string{"c", "d", "k", "n"}
		} else {
			wantInner = []string{"c", "d", "k"}
		}
		if got := scope.Visible(u, api.Ref{Node: last - 1}); !slices.Equal(got, wantInner) {
			t.Errorf("%d: Visible = %q, want %q", kind, got, wantInner)
		}
		if kind == api.KdFunc {
			wantInner = []string{"k"}
		}
		if got := scope.Visible(u, api.Ref{Node: last}); !slices.Equal(got, wantInner) {
			t.Errorf("%d: Visible at the kid = %q, want %q", kind, got, wantInner)
		}
	}
}

// P12.2: the names are in the order of their bytes, each of them once, also if it is of several variables and constants.
func TestVisibleIsSorted(t *testing.T) {
	names := []string{"b", "a", "", "é", "B", "\xff", "a", "aa", "_", "a0", "b", "10", "9", "", "z"}
	var variables, parameters, constants []api.Node
	for i, s := range names {
		variables = append(variables, let(s))
		parameters = append(parameters, param(names[len(names)-1-i]))
		constants = append(constants, constant(s))
	}
	want := []string{"", "10", "9", "B", "_", "a", "a0", "aa", "b", "z", "é", "\xff"}
	body := block(append(slices.Clone(variables), use("here"))...)
	for i, u := range [][]api.Unit{
		units(function("f", params(), body)),
		units(function("f", params(parameters...), block(use("here")))),
		units(function("f", params(), block(use("here"))), file(constants...)),
		units(function("f", params(parameters...), body), file(constants...)),
		units(function("f", params(parameters...), body), file(constants...), file(constants...)),
		units(function("f", params(parameters...), block(append(slices.Clone(variables), body)...))),
	} {
		if got := scope.Visible(u, at(t, u, "name here")); !slices.Equal(got, want) {
			t.Errorf("%d: Visible = %q, want %q", i, got, want)
		}
	}
}
