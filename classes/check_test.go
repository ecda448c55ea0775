package classes_test

import (
	"testing"

	"treemerge/api"
	"treemerge/classes"
)

// The tests of P13.1.

// wantCheck checks the error of units, and the place of its node.
func wantCheck(t *testing.T, name string, u []api.Unit, want api.Errno, at string) {
	t.Helper()
	e, r := classes.Check(u)
	switch {
	case e != want:
		t.Errorf("%s: Check = %d, want %d", name, e, want)
	case e == api.OK && r != api.Ref{}:
		t.Errorf("%s: the node is %v without an error", name, r)
	case e != api.OK && place(u, r) != at:
		t.Errorf("%s: the node is %s, want %s", name, place(u, r), at)
	}
	wantDefined(t, u)
}

// P13.1: no errors.
func TestCheckCorrect(t *testing.T) {
	for _, u := range [][]api.Unit{
		nil,
		{},
		{{}},
		load(t, ""),
		load(t, "", "// a comment"),
		load(t, "class A { }"),
		load(t, "class A { } class B : A { } class C : B { }"),
		load(t, "class C : B { } class B : A { } class A { }"),
		load(t, "class C : B { } class D : B { }", "class A { } class E : A { }", "class B : A { }"),
		load(t, "class A { fn m() int { } fn n() int { } } class B : A { fn m() int { } } class C { fn m() int { } }", "class D : A { fn m() int { } }"),
		load(t, "class A { } fn A() int { } const A = 1; fn f(A int) int { let A = 1; } class B { fn A() int { } fn B() int { } }"),
		load(t, "class int { } class bool : int { fn int() int { } }"),
		load(t, "class A { } class a : A { fn m() int { } fn M() int { } }"),
		load(t, "fn f() int { } fn f() int { } const c = 1; const c = 2; class C { fn m(a int, a int) int { let b = 1; let b = 2; } }"),
		load(t, "fn f(a X) Y { return new Z(); } class C { fn m(a X) Y { return new Z(); } }"),
	} {
		wantCheck(t, "a correct project", u, api.OK, "")
	}
}

// P13.1: each error alone, at several places.
func TestCheckErrors(t *testing.T) {
	for _, x := range []struct {
		name    string
		sources []string
		err     api.Errno
		at      string
	}{
		{"a class twice", []string{"class A { } class A { }"}, api.ErrExists, "class A#1"},
		{"a class three times", []string{"class A { } class B { } class A { } class A { }"}, api.ErrExists, "class A#1"},
		{"a class in two units", []string{"class A { }", "class B { } class A { }"}, api.ErrExists, "class A#1"},
		{"two classes twice", []string{"class A { } class B { } class B { } class A { }"}, api.ErrExists, "class B#1"},
		{"two classes twice in two units", []string{"class A { } class B { }", "class B { } class A { }"}, api.ErrExists, "class B#1"},
		{"a class twice with other bases", []string{"class A { } class B { } class B : A { }"}, api.ErrExists, "class B#1"},
		{"a method twice", []string{"class A { fn m() int { } fn m() int { } }"}, api.ErrExists, "fn m#1"},
		{"a method three times", []string{"class A { fn n() int { } fn m() int { } fn m() int { } fn m() int { } }"}, api.ErrExists, "fn m#1"},
		{"a method twice with another signature", []string{"class A { fn m() int { } fn n() int { } fn m(a int) bool { } }"}, api.ErrExists, "fn m#1"},
		{"two methods twice", []string{"class A { fn m() int { } fn n() int { } fn n() int { } fn m() int { } }"}, api.ErrExists, "fn n#1"},
		{"a method twice behind another class", []string{"class A { fn m() int { } } class B { fn n() int { } fn m() int { } fn m() int { } }"}, api.ErrExists, "fn m#2"},
		{"a method in two classes of one name", []string{"class A { fn m() int { } } class A { fn m() int { } }"}, api.ErrExists, "class A#1"},
		{"a method in two classes of one name in two units", []string{"class A { fn m() int { } }", "class A { fn m() int { } }"}, api.ErrExists, "class A#1"},
		{"a method twice before a class twice", []string{"class A { fn m() int { } fn m() int { } } class A { }"}, api.ErrExists, "fn m#1"},
		{"a class twice before a method twice", []string{"class A { } class A { fn m() int { } fn m() int { } }"}, api.ErrExists, "class A#1"},
		{"a class twice before another method twice", []string{"class A { }", "class A { }", "class B { fn m() int { } fn m() int { } }"}, api.ErrExists, "class A#1"},

		{"a base class that is not declared", []string{"class A : X { }"}, api.ErrBind, "base X"},
		{"a base class that is not declared, behind others", []string{"class A { } class B : A { } class C : X { } class D : Y { }"}, api.ErrBind, "base X"},
		{"a base class that is not declared, twice", []string{"class A : X { } class B : X { }"}, api.ErrBind, "base X"},
		{"a base class that is not declared, in another unit", []string{"class A { }", "fn f() int { } class B : A { } class C : X { }"}, api.ErrBind, "base X"},
		{"a function as a base class", []string{"fn f() int { } class A : f { }"}, api.ErrBind, "base f"},
		{"a constant as a base class", []string{"const c = 1; class A : c { }"}, api.ErrBind, "base c"},
		{"a method as a base class", []string{"class A : m { fn m() int { } }"}, api.ErrBind, "base m"},
		{"a parameter or a variable as a base class", []string{"fn f(p int) int { let v = 1; } class A { } class B : v { } class C : p { }"}, api.ErrBind, "base v"},
		{"a type as a base class", []string{"class A : int { }"}, api.ErrBind, "base int"},
		{"another case", []string{"class A { } class B : a { }"}, api.ErrBind, "base a"},
		{"a use that is not declared before a base class", []string{"fn f(a X) Y { return new Z(); } class A : X { }"}, api.ErrBind, "base X"},

		{"a class as its own base class", []string{"class A : A { }"}, api.ErrCycle, "class A"},
		{"a circle of two", []string{"class A : B { } class B : A { }"}, api.ErrCycle, "class A"},
		{"a circle of two in another order", []string{"class B : A { } class A : B { }"}, api.ErrCycle, "class B"},
		{"a circle of three", []string{"class C : A { } class A : B { } class B : C { }"}, api.ErrCycle, "class C"},
		{"a circle of four in units", []string{"class Z { } class D : A { }", "class B : C { } class A : B { }", "class C : D { }"}, api.ErrCycle, "class D"},
		{"a chain into a circle of one", []string{"class A : B { } class B : B { }"}, api.ErrCycle, "class B"},
		{"a chain into a circle of two", []string{"class A : B { } class B : C { } class D : C { } class C : D { }"}, api.ErrCycle, "class D"},
		{"a chain into the end of a circle", []string{"class A : C { } class B : C { } class C : B { }"}, api.ErrCycle, "class B"},
		{"two chains into a circle", []string{"class A : D { } class B : A { } class C : D { } class D : E { } class E : D { }"}, api.ErrCycle, "class D"},
		{"a chain from each class of a circle", []string{"class A : C { } class B : D { } class C : D { } class D : C { }"}, api.ErrCycle, "class C"},
		{"two circles", []string{"class Z { } class C : D { } class A : B { } class B : A { } class D : C { }"}, api.ErrCycle, "class C"},
		{"a chain into the later one of two circles", []string{"class A : E { } class B : B { } class E : E { }"}, api.ErrCycle, "class B"},
		{"a chain into the earlier one of two circles", []string{"class A : B { } class B : B { } class E : E { }"}, api.ErrCycle, "class B"},
		{"a circle beside classes without an error", []string{"class A { } class B : A { } class C : C { } class D : B { }"}, api.ErrCycle, "class C"},
	} {
		wantCheck(t, x.name, load(t, x.sources...), x.err, x.at)
	}
}

// P13.1: of several errors, the one that the chapter names first, wherever they are.
func TestCheckOrder(t *testing.T) {
	parts := map[string]string{
		"class":  "class D { } class D { }",
		"method": "class E { fn m() int { } fn m() int { } }",
		"base":   "class F : X { }",
		"circle": "class G : H { } class H : G { }",
	}
	want := map[string]string{"class": "class D#1", "method": "fn m#1", "base": "base X", "circle": "class G"}
	errs := map[string]api.Errno{"class": api.ErrExists, "method": api.ErrExists, "base": api.ErrBind, "circle": api.ErrCycle}
	rank := map[string]int{"class": 1, "method": 1, "base": 2, "circle": 3}
	for one, a := range parts {
		for other, b := range parts {
			if one == other {
				continue
			}
			first := one
			if rank[other] < rank[one] {
				first = other
			}
			wantCheck(t, one+" and "+other, load(t, a+" "+b), errs[first], want[first])
			wantCheck(t, one+" and "+other+" in two units", load(t, a, b), errs[first], want[first])
		}
	}
	for _, x := range []struct {
		name, source string
		err          api.Errno
		at           string
	}{
		{"a class twice, not bound and in a circle", "class A : A { } class B : X { } class A : X { }", api.ErrExists, "class A#1"},
		{"a circle with a chain that is not bound", "class A : B { } class B : A { } class C : X { } class D : C { }", api.ErrBind, "base X"},
		{"a method twice in a circle", "class A : A { fn m() int { } fn m() int { } }", api.ErrExists, "fn m#1"},
		{"a method twice in a class that is not bound", "class A : X { fn m() int { } fn m() int { } }", api.ErrExists, "fn m#1"},
	} {
		wantCheck(t, x.name, load(t, x.source), x.err, x.at)
	}
}

// P13.1: trees that are not well-formed.
func TestCheckTrees(t *testing.T) {
	inner := func(kids ...api.Node) api.Node { return node(api.KdBlock, "", kids...) }
	for _, x := range []struct {
		name string
		u    []api.Unit
		err  api.Errno
		at   string
	}{
		{"the zero tree", units(api.Node{}, api.Node{}), api.OK, ""},
		{"a class alone", units(class("A", "")), api.OK, ""},
		{"a base alone", units(base("X")), api.OK, ""},
		{"a base alone as the first node, and a class without one", units(base("X"), node(api.KdClass, "A")), api.OK, ""},
		{"a base of a file", units(file(base("X"), class("A", ""))), api.OK, ""},
		{"a method without a class", units(file(method("m"), method("m"), inner(method("m")))), api.OK, ""},
		{"a class as the first node", units(class("A", "A")), api.ErrCycle, "class A"},
		{"no base", units(file(node(api.KdClass, "A"), node(api.KdClass, "B", method("m")))), api.OK, ""},
		{"several bases", units(file(node(api.KdClass, "A", base(""), base("X")), class("B", ""), node(api.KdClass, "C", base("B"), base("X"), base("C")))), api.OK, ""},
		{"the first one of several bases", units(file(node(api.KdClass, "A", base("X"), base(""), base("A")))), api.ErrBind, "base X"},
		{"the first one of several equal bases", units(file(node(api.KdClass, "A", base("X"), base("X")))), api.ErrBind, "base X"},
		{"a base behind methods", units(file(node(api.KdClass, "A", method("m"), method("n", inner()), base("X"), method("o")))), api.ErrBind, "base X"},
		{"a base behind a class", units(file(node(api.KdClass, "A", class("B", ""), base("X")))), api.ErrBind, "base X"},
		{"a base in the kid of a class", units(file(node(api.KdClass, "A", inner(base("X")), method("m", base("A"))))), api.OK, ""},
		{"a base in a kid before the base of a class", units(file(node(api.KdClass, "A", inner(base("")), base("A")))), api.ErrCycle, "class A"},
		{"a base in a base", units(file(node(api.KdClass, "A", node(api.KdBase, "A", base("X"))))), api.ErrCycle, "class A"},
		{"the base of a class in a class with another one", units(file(node(api.KdClass, "A", node(api.KdClass, "B", base("X")), base("Y")))), api.ErrBind, "base Y"},
		{"a class in a class before its base", units(file(node(api.KdClass, "A", node(api.KdClass, "B", base("X")), base("")))), api.ErrBind, "base X"},
		{"classes in each other", units(class("A", ""), node(api.KdClass, "B", base("A"), class("C", "B"), method("m", class("D", "E"), class("E", "D")))), api.ErrCycle, "class D"},
		{"a class in itself", units(node(api.KdClass, "A", class("A", ""))), api.ErrExists, "class A#1"},
		{"a class in its method", units(node(api.KdClass, "A", method("m", class("A", "")), method("m"))), api.ErrExists, "class A#1"},
		{"a method behind a class in its class", units(node(api.KdClass, "A", method("m"), class("B", "", "m"), method("m"))), api.ErrExists, "fn m#2"},
		{"a function in a method", units(node(api.KdClass, "A", method("m", method("m"), inner(method("m"))))), api.OK, ""},
		{"functions in the block of a class", units(node(api.KdClass, "A", method("m"), inner(method("m"), method("m")))), api.OK, ""},
		{"an empty class name", units(file(class("", ""), class("A", ""))), api.OK, ""},
		{"an empty class name twice", units(file(class("", "", ""), class("", "", ""))), api.ErrExists, "class#1"},
		{"an empty method name twice", units(file(class("A", "", "", "m"), class("", "", "", ""))), api.ErrExists, "fn#2"},
		{"an empty class name that is not bound", units(file(class("", "X"))), api.ErrBind, "base X"},
		{"an empty class name above and below", units(file(class("", "A"), class("A", ""))), api.OK, ""},
		{"a class and a method with equal keys", units(file(class("m", ""), class("", "", "m"), class("n", ""))), api.OK, ""},
		{"names that are equal when they are joined", units(file(class("A.m", "", "x"), class("A", "", "m.x", "m", "x"))), api.OK, ""},
		{"names of all sorts", units(file(class("é", "A "), class("A ", ""), class("A", ""), class("\xff", "\xfe"))), api.ErrBind, "base \xfe"},
	} {
		wantCheck(t, x.name, x.u, x.err, x.at)
	}
}

// P13.1: broken units have no classes, even if they have trees.
func TestCheckUnits(t *testing.T) {
	broken := func(n api.Node) api.Unit { return api.Unit{Text: "class A { }\n", Tree: n, Broken: true} }
	good := func(n api.Node) api.Unit { return api.Unit{Text: "class", Tree: n} }
	a, b, c := file(class("A", "", "m")), file(class("B", "A", "m")), file(class("C", "C"))
	for _, x := range []struct {
		name string
		u    []api.Unit
		err  api.Errno
		at   string
	}{
		{"all broken", []api.Unit{broken(a), broken(a), broken(c), broken(file(class("D", "X")))}, api.OK, ""},
		{"a broken one before", []api.Unit{broken(a), good(a)}, api.OK, ""},
		{"a broken one behind", []api.Unit{good(a), broken(a)}, api.OK, ""},
		{"a broken one between", []api.Unit{good(a), broken(a), good(b)}, api.OK, ""},
		{"a class twice around broken ones", []api.Unit{broken(a), good(a), broken(a), {}, good(a)}, api.ErrExists, "class A#1"},
		{"a base class in a broken unit", []api.Unit{broken(a), good(b), broken(a)}, api.ErrBind, "base A"},
		{"a base class in a unit before", []api.Unit{good(a), good(b)}, api.OK, ""},
		{"a base class in a unit behind", []api.Unit{good(b), broken(a), {}, good(a)}, api.OK, ""},
		{"a circle in a broken unit", []api.Unit{good(a), broken(c), good(b)}, api.OK, ""},
		{"a circle behind a broken unit", []api.Unit{broken(c), good(a), broken(c), good(c)}, api.ErrCycle, "class C"},
	} {
		wantCheck(t, x.name, x.u, x.err, x.at)
	}
}

// P13.1: the kinds of the nodes that matter, among all kinds and numbers that are none.
func TestCheckKinds(t *testing.T) {
	for kind := -3; kind < api.Kinds+3; kind++ {
		isClass, isBase, isMethod := kind == api.KdClass, kind == api.KdBase, kind == api.KdFunc
		for _, x := range []struct {
			name string
			u    []api.Unit
			err  api.Errno
			is   bool
		}{
			{"a class twice", units(file(node(kind, "A"), node(kind, "A"))), api.ErrExists, isClass},
			{"a class and another node", units(file(class("A", ""), node(kind, "A"))), api.ErrExists, isClass},
			{"a method twice", units(node(api.KdClass, "A", node(kind, "m"), node(kind, "m"))), api.ErrExists, isMethod || isClass},
			{"a method and another node", units(node(api.KdClass, "A", method("m"), node(kind, "m"))), api.ErrExists, isMethod},
			{"the class of methods", units(node(kind, "A", method("m"), method("m"))), api.ErrExists, isClass},
			{"the node of a base name", units(node(api.KdClass, "A", node(kind, "X"))), api.ErrBind, isBase},
			{"a node before a base", units(node(api.KdClass, "A", node(kind, ""), base("X"))), api.ErrBind, !isBase},
			{"the node with a base", units(file(node(kind, "A", base("X")))), api.ErrBind, isClass},
			{"the declaration of a base", units(file(node(kind, "A"), class("B", "A"))), api.ErrBind, !isClass},
			{"the node in a circle", units(file(node(kind, "A", base("A")))), api.ErrCycle, isClass},
			{"the base in a circle", units(file(node(api.KdClass, "A", node(kind, "A")))), api.ErrCycle, isBase},
		} {
			if e, _ := classes.Check(x.u); (e == x.err) != x.is {
				t.Errorf("%d as %s: Check = %d", kind, x.name, e)
			}
			wantDefined(t, x.u)
		}
	}
}
