package scope_test

import (
	"testing"

	"treemerge/api"
)

// The tests of P12.1, of P12.2 for Resolve, and of P12.3 for Unbound.

// P12.1: the uses of files, with the kind and the name of each node, and how many equal ones precede it.
func TestUsesOfFiles(t *testing.T) {
	for _, x := range []struct {
		name, source, want string
	}{
		{"an empty file", "", ""},
		{"the example", "const a = 1; fn f(b int) int { let c = a; if b < c { let a = b; c = a; } return a; } class A : B { }", "name a > const a, name b > param b, name c > let c, name b#1 > param b, set c > let c, name a#1 > let a, name a#2 > const a, base B > -"},
		{"doubles of the example", "fn f(x int, x int) int { let y = 1; let y = 2; return y; }", "name y > let y"},
		{"each kind, bound", "class A { } class B : A { } const k = 1; fn f(p A) B { let v = k; v = p; f(v); return new B(); }", "base A > class A, type A > class A, type B > class B, name k > const k, set v > let v, name p > param p, call f > fn f, name v > let v, new B > class B"},
		{"each kind, not bound", "class A : X { } fn f(p Y) Z { v = w; g(q); return new N(); }", "base X > -, type Y > -, type Z > -, set v > -, name w > -, call g > -, name q > -, new N > -"},
		{"types", "fn f(a int, b bool) int { } fn g(a A, b B) A { } class A { }", "type A > class A, type B > -, type A#1 > class A"},
		{"types in methods", "class A { fn m(a A, b int) B { } } class B { }", "type A > class A, type B > class B"},
		{"int and bool as classes", "class int { } class bool { } class C : int { fn m() int { return new bool(); } } class D : bool { }", "base int > class int, new bool > class bool, base bool > class bool"},
		{"int and bool are no variables", "fn f(int int) bool { let bool = int; return bool; }", "name int > param int, name bool > let bool"},
		{"no uses", "const a = -1 + (2); class A { fn m() int { return self.m(); } } fn f() bool { if true { } while false { } !1; }", ""},

		{"a variable before, in and behind its KdLet", "fn f() int { x = x; let x = x; x = x; return x; }", "set x > -, name x > -, name x#1 > -, set x#1 > let x, name x#2 > let x, name x#3 > let x"},
		{"a variable of a block around", "fn f() int { let x = 1; while x < x { x = x; if x { x = 1; } else { x = 2; } } return x; }", "name x > let x, name x#1 > let x, set x > let x, name x#2 > let x, name x#3 > let x, set x#1 > let x, set x#2 > let x, name x#4 > let x"},
		{"a variable of a block beside", "fn f() int { if true { let x = 1; } else { x = 2; } while x { let x = 3; } return x; }", "set x > -, name x > -, name x#1 > -"},
		{"a variable behind an inner block", "fn f() int { if x { x = 1; } let x = 2; }", "name x > -, set x > -"},
		{"two variables of one block", "fn f() int { let x = 1; let x = 2; let x = x; return x; }", "name x > let x, name x#1 > let x"},
		{"two variables with a block between", "fn f() int { let x = 1; if true { let x = 2; } let x = 3; if true { let x = x; return x; } return x; }", "name x > let x, name x#1 > let x#3, name x#2 > let x"},
		{"variables of blocks in each other", "fn f() int { let x = 1; if true { x = 2; let x = x; x = 3; if x { x = x; let x = x; let x = x; x = x; } x = x; } return x; }", "set x > let x, name x > let x, set x#1 > let x#1, name x#1 > let x#1, set x#2 > let x#1, name x#2 > let x#1, name x#3 > let x#1, name x#4 > let x#2, set x#3 > let x#2, name x#5 > let x#2, set x#4 > let x#1, name x#6 > let x#1, name x#7 > let x"},
		{"an inner variable alone hides", "fn f() int { let x = 1; let y = 2; if true { let y = 3; return x + y; } return x + y; }", "name x > let x, name y > let y#1, name x#1 > let x, name y#1 > let y"},
		{"variables of other functions", "fn f() int { let x = 1; } fn g() int { return x; } class C { fn m() int { let x = 1; } fn n() int { return x; } }", "name x > -, name x#1 > -"},

		{"a parameter in its function", "fn f(x int, y x) x { let z = x; if y { y = x; } return y; }", "type x > -, type x#1 > -, name x > param x, name y > param y, set y > param y, name x#1 > param x, name y#1 > param y"},
		{"parameters of one name", "fn f(x int, y int, x bool) int { return x; }", "name x > param x"},
		{"a variable hides a parameter", "fn f(x int) int { x = x; let x = x; x = x; }", "set x > param x, name x > param x, name x#1 > param x, set x#1 > let x, name x#2 > let x"},
		{"an inner variable hides a parameter", "fn f(x int) int { if x { let x = 1; x = x; } return x; }", "name x > param x, set x > let x, name x#1 > let x, name x#2 > param x"},
		{"parameters of other functions", "fn f(x int) int { return y; } fn g(y int) int { return x; }", "name y > -, name x > -"},
		{"parameters of methods", "class C { fn m(x int) int { return x; } fn n() int { return x; } }", "name x > param x, name x#1 > -"},
		{"functions of one name", "fn f(x int) int { return x; } fn f(x int) int { return f(x); }", "name x > param x, call f > fn f, name x#1 > param x#1"},

		{"constants anywhere", "fn f() int { return a + b; } const a = 1; const b = 2; fn g() int { a = b; }", "name a > const a, name b > const b, set a > const a, name b#1 > const b"},
		{"constants in constants", "const a = b; const b = a; const c = c;", "name b > const b, name a > const a, name c > const c"},
		{"constants of one name", "fn f() int { return a; } const a = 1; const a = 2;", "name a > const a"},
		{"a variable hides a constant", "const x = 1; fn f() int { x = x; let x = x; x = x; }", "set x > const x, name x > const x, name x#1 > const x, set x#1 > let x, name x#2 > let x"},
		{"a parameter hides a constant", "const x = 1; fn f(x int) int { return x; } fn g() int { return x; }", "name x > param x, name x#1 > const x"},

		{"one name in all name spaces", "const x = 1; fn x(x x) x { let y = x(x); return new x(); } class x : x { fn x() x { return x(x); } }", "type x > class x, type x#1 > class x, call x > fn x, name x > param x, new x > class x, base x > class x, type x#2 > class x, call x#1 > fn x, name x#1 > const x"},
		{"a function is no variable", "fn f() f { f = f; return new f(); } class A : f { }", "type f > -, set f > -, name f > -, new f > -, base f > -"},
		{"a class is no variable", "class A { } fn f() int { A = A; return A(); }", "set A > -, name A > -, call A > -"},
		{"a constant is no function", "const c = 1; fn f(x c) int { c(); return new c(); }", "type c > -, call c > -, new c > -"},
		{"a variable is no function", "fn f(g int) int { let h = g(); h(); return new h(); }", "call g > -, call h > -, new h > -"},
		{"a method is no function", "class A { fn m() int { return m(); } } fn f() m { return m; }", "call m > -, type m > -, name m > -"},
		{"a function behind a method", "class A { fn f() int { return f(); } } fn f() int { } fn f() bool { }", "call f > fn f#1"},
		{"calls", "fn f(a int) int { let b = f(g(a), f(b)).m(f(a)); } fn g() int { return f(g()); }", "call f > fn f, call g > fn g, name a > param a, call f#1 > fn f, name b > -, call f#2 > fn f, name a#1 > param a, call f#3 > fn f, call g#1 > fn g"},
		{"classes of one name", "class B : A { } class A { } class A { fn m() A { return new A(); } }", "base A > class A, type A > class A, new A > class A"},
		{"a class as its own base", "class A : A { }", "base A > class A"},
		{"letters of both cases", "class A { } const B = 1; fn f(X int) a { return b + x + X + F(); }", "type a > -, name b > -, name x > -, name X > param X, call F > -"},
	} {
		wantUses(t, x.name, load(t, x.source), x.want)
	}
}

// P12.1: uses in trees that are not well-formed.
func TestUsesOfTrees(t *testing.T) {
	x, y := use("x"), use("y")
	for _, c := range []struct {
		name string
		tree api.Node
		want string
	}{
		{"the zero tree", api.Node{}, ""},
		{"a use alone", x, "name x > -"},
		{"a set alone", node(api.KdSet, "x"), "set x > -"},
		{"a variable alone", let("x", x), "name x > -"},
		{"a parameter alone", param("x", x, block(x)), "name x > -, name x#1 > -"},
		{"parameters alone", params(param("x"), block(x)), "name x > -"},
		{"a constant alone", constant("x", x), "name x > const x"},
		{"a class alone", class("A", node(api.KdBase, "A"), node(api.KdBase, "B")), "base A > class A, base B > -"},
		{"a function alone", function("f", node(api.KdCall, "f")), "call f > fn f"},

		{"several parameter lists and bodies", function("f", block(x, y), params(param("x")), block(x, y), params(param("y"), param("x")), block(x, y)), "name x > -, name y > -, name x#1 > param x, name y#1 > -, name x#2 > param x, name y#2 > param y"},
		{"parameters behind the body", function("f", block(x), params(param("x"))), "name x > -"},
		{"a parameter in the parameters", function("f", params(param("x", x), param("y", x), x, block(x)), params(x, block(x)), block()), "name x > -, name x#1 > -, name x#2 > -, name x#3 > -, name x#4 > -, name x#5 > -"},
		{"a parameter in the result", function("f", params(param("x")), node(api.KdType, "int", x, block(x)), block()), "name x > -, name x#1 > -"},
		{"a body that is the use", function("f", params(param("x")), x, node(api.KdSet, "x")), "name x > -, set x > -"},
		{"a parameter in a parameter", function("f", params(param("x", param("y"))), block(x, y)), "name x > param x, name y > -"},
		{"parameters in parameters", function("f", params(params(param("x"))), block(x)), "name x > -"},
		{"parameters in the body", function("f", block(params(param("x")), x, block(x))), "name x > -, name x#1 > -"},
		{"a parameter of a function", function("f", param("x"), block(x)), "name x > -"},
		{"parameters of a block", block(params(param("x")), block(x)), "name x > -"},
		{"a parameter in a block", function("f", block(param("x"), x, block(x))), "name x > -, name x#1 > -"},
		{"a variable in the parameters", function("f", params(let("x"), block(let("y"), y)), block(x, y)), "name y > let y, name x > -, name y#1 > -"},
		{"a variable in a parameter hides it", function("f", params(param("x", block(x, let("x"), x))), block(x)), "name x > -, name x#1 > let x, name x#2 > param x"},
		{"a parameter that precedes the body, but not the list", function("f", params(param("x")), params(param("x")), block(x)), "name x > param x"},

		{"a variable in a function", function("f", params(), let("x"), x, block(x)), "name x > -, name x#1 > -"},
		{"a variable in a file", file(let("x"), x, block(x)), "name x > -, name x#1 > -"},
		{"a variable in a statement", block(node(api.KdIf, "", let("x"), block(x), node(api.KdElse, "", block(x)))), "name x > -, name x#1 > -"},
		{"a variable in a variable", block(let("x", let("y"), y), x, y), "name y > -, name x > let x, name y#1 > -"},
		{"a block in a variable", block(let("x", block(let("x", x), x), x), x), "name x > -, name x#1 > let x#1, name x#2 > -, name x#3 > let x"},
		{"a variable in another one of its name", block(let("x"), block(let("x", x, block(x)), x), x), "name x > let x, name x#1 > let x, name x#2 > let x#1, name x#3 > let x"},
		{"blocks in each other", block(let("x"), block(let("x"), block(x), x), x), "name x > let x#1, name x#1 > let x#1, name x#2 > let x"},
		{"blocks beside each other", block(block(let("x"), x), block(x, let("x"), x), x), "name x > let x, name x#1 > -, name x#2 > let x#1, name x#3 > -"},
		{"variables with a node between", block(let("x"), node(api.KdWhile, "x", block(x), x), x), "name x > let x, name x#1 > let x, name x#2 > let x"},
		{"a block in a use", block(let("x"), node(api.KdName, "y", block(x, let("y"), y), y)), "name y > -, name x > let x, name y#1 > let y, name y#2 > -"},
		{"a set with a variable", block(node(api.KdSet, "x", let("x"), x), x), "set x > -, name x > -, name x#1 > -"},
		{"a block without a function", class("A", node(api.KdBase, ""), block(let("x"), x)), "name x > let x"},

		{"a function in a function", function("f", params(param("x")), block(let("y"), function("g", params(param("z")), block(x, y, use("z"))), x, y, use("z"))), "name x > -, name y > -, name z > param z, name x#1 > param x, name y#1 > let y, name z#1 > -"},
		{"the parts of a function in a function", function("f", params(param("x")), block(let("y"), function("g", params(param("y", x), y), node(api.KdType, "int", x, y), x, y, block(y)))), "name x > -, name y > -, name x#1 > -, name y#1 > -, name x#2 > -, name y#2 > -, name y#3 > param y"},
		{"a function as the body of a function", function("f", params(param("x")), function("g", params(param("y")), block(x, y))), "name x > -, name y > param y"},
		{"a function in parameters", function("f", params(param("x"), function("g", params(param("y")), block(x, y))), block(x, y)), "name x > -, name y > param y, name x#1 > param x, name y#1 > -"},
		{"a function in a block without a function", block(let("x"), function("f", block(x)), x), "name x > -, name x#1 > let x"},
		{"a function between blocks", function("f", block(let("x"), function("g", params(), block()), block(x), let("x"), x)), "name x > let x, name x#1 > let x"},
		{"functions of all depths are called", file(function("f", block(function("g", block(node(api.KdCall, "h"))), node(api.KdCall, "g"), class("A", function("h"), block(function("h")))))), "call h > fn h#1, call g > fn g"},
		{"constants and classes of all depths", function("f", block(x, constant("x"), class("A", class("B"))), node(api.KdNew, "A"), node(api.KdBase, "B")), "name x > const x, new A > class A, base B > class B"},
		{"a constant is not of a block", block(let("x"), block(constant("x"), x)), "name x > let x"},

		{"empty names", file(function("", params(param("")), node(api.KdType, ""), block(use(""), let(""), use(""), node(api.KdSet, ""), node(api.KdCall, ""), node(api.KdNew, ""))), class("", node(api.KdBase, "")), constant("", use(""))), "type > class, name > param, name#1 > let, set > let, call > fn, new > class, name#2 > const"},
		{"empty names, not bound", file(use(""), node(api.KdSet, ""), node(api.KdCall, ""), node(api.KdNew, ""), node(api.KdType, ""), node(api.KdBase, "")), "name > -, set > -, call > -, new > -, type > -"},
		{"types of all sorts", file(node(api.KdType, "int"), node(api.KdType, "bool"), node(api.KdType, "Int"), node(api.KdType, "int "), node(api.KdType, "boolean"), node(api.KdType, "in"), node(api.KdBase, "int"), node(api.KdBase, "bool"), node(api.KdNew, "int"), node(api.KdNew, "bool")), "type Int > -, type int > -, type boolean > -, type in > -, base int > -, base bool > -, new int > -, new bool > -"},
	} {
		wantUses(t, c.name, units(c.tree), c.want)
	}
}
