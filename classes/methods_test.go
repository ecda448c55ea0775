package classes_test

import (
	"strings"
	"testing"

	"treemerge/api"
	"treemerge/classes"
)

// The tests of P13.3 and P13.4.

// wantMethod checks what Lookup and Family return for a method, which is written like C.m; found is empty if there is none.
func wantMethod(t *testing.T, name string, u []api.Unit, at, found, family string) {
	t.Helper()
	class, method, _ := strings.Cut(at, ".")
	d, ok := classes.Lookup(u, class, method)
	switch {
	case ok != (found != ""):
		t.Errorf("%s: Lookup of %s = %v, %t, want %q", name, at, d, ok, found)
	case !ok && d != api.Decl{}:
		t.Errorf("%s: Lookup of %s = %v without a method", name, at, d)
	case ok && listed(t, u, []api.Decl{d}) != found:
		t.Errorf("%s: Lookup of %s = %s, want %s", name, at, listed(t, u, []api.Decl{d}), found)
	}
	if got := listed(t, u, classes.Family(u, class, method)); got != family {
		t.Errorf("%s: Family of %s = %s, want %s", name, at, got, family)
	}
}

// expected is what is expected for a method.
type expected struct{ at, found, family string }

// each returns the same expectation of several methods.
func each(found, family string, l ...string) []expected {
	var all []expected
	for _, at := range l {
		all = append(all, expected{at, found, family})
	}
	return all
}

// P13.3, P13.4: the methods of files. Methods of one name are numbered in their order: m, m#1, m#2.
func TestMethodsOfFiles(t *testing.T) {
	const m, n, m2 = "{ fn m() int { } }", "{ fn n() int { } }", "{ fn m() int { } fn m(a int) bool { } }"
	for _, x := range []struct {
		name    string
		sources []string
		want    [][]expected
	}{
		{"no units", nil, [][]expected{each("", "", "A.m", "A.", ".m", ".")}},
		{"an empty file", []string{""}, [][]expected{each("", "", "A.m", "A.", ".m", ".")}},
		{"the example", []string{"class A { fn m() int { return 1; } } class B : A { }"}, [][]expected{each("A.m", "A.m", "A.m", "B.m"), each("", "", "A.n", "B.n", "C.m", "A.", "B.", ".m", "m.A", "A.A", "A.M", "a.m")}},
		{"a class without a method", []string{"class A { } class B : A " + m}, [][]expected{each("", "", "A.m"), each("B.m", "B.m", "B.m")}},
		{"functions", []string{"fn m() int { } class A { fn n() int { m(); } } fn n() int { }"}, [][]expected{each("", "", "A.m", ".m", ".n", "m.n"), each("A.n", "A.n", "A.n")}},
		{"parameters and variables", []string{"class A { fn m(p int) int { let v = 1; } }"}, [][]expected{each("", "", "A.p", "A.v", "m.p", "A.m.p")}},
		{"a class of the name of a method", []string{"class m { } class n : m { fn m() int { } }"}, [][]expected{each("", "", "m.m", "m.n", "n.n"), each("n.m", "n.m", "n.m")}},

		{"a nearer and a farther base class", []string{"class A " + m + " class B : A " + m + " class C : B { } class D : C { }"}, [][]expected{each("A.m", "A.m B.m#1", "A.m"), each("B.m#1", "A.m B.m#1", "B.m", "C.m", "D.m")}},
		{"the class itself before its base classes", []string{"class C : B " + m + " class B : A " + m + " class A " + m}, [][]expected{each("C.m", "C.m B.m#1 A.m#2", "C.m"), each("B.m#1", "C.m B.m#1 A.m#2", "B.m"), each("A.m#2", "C.m B.m#1 A.m#2", "A.m")}},
		{"a class between without the method", []string{"class A " + m + " class B : A { } class C : B " + m}, [][]expected{each("A.m", "A.m C.m#1", "A.m", "B.m"), each("C.m#1", "A.m C.m#1", "C.m")}},
		{"a class above without the method", []string{"class A { } class B : A " + m + " class C : B " + m + " class D : A " + m}, [][]expected{each("", "", "A.m"), each("B.m", "B.m C.m#1", "B.m"), each("C.m#1", "B.m C.m#1", "C.m"), each("D.m#2", "D.m#2", "D.m")}},
		{"classes side by side", []string{"class A " + m + " class B : A " + m + " class C : A " + m + " class D : B { } class E : C " + m + " class F " + m}, [][]expected{
			each("A.m", "A.m B.m#1 C.m#2 E.m#3", "A.m"), each("B.m#1", "A.m B.m#1 C.m#2 E.m#3", "B.m", "D.m"), each("C.m#2", "A.m B.m#1 C.m#2 E.m#3", "C.m"), each("E.m#3", "A.m B.m#1 C.m#2 E.m#3", "E.m"), each("F.m#4", "F.m#4", "F.m"),
		}},
		{"classes side by side below a class without the method", []string{"class A { } class B : A " + m + " class C : A " + m + " class D : B " + m}, [][]expected{each("B.m", "B.m D.m#2", "B.m"), each("D.m#2", "B.m D.m#2", "D.m"), each("C.m#1", "C.m#1", "C.m")}},
		{"the order of the declarations", []string{"class C : B " + m + " class E : A " + m, "class A " + m + " class D : C " + m, "class B : A " + m}, [][]expected{
			each("C.m", "C.m E.m#1 A.m#2 D.m#3 B.m#4", "C.m"), each("E.m#1", "C.m E.m#1 A.m#2 D.m#3 B.m#4", "E.m"), each("A.m#2", "C.m E.m#1 A.m#2 D.m#3 B.m#4", "A.m"), each("D.m#3", "C.m E.m#1 A.m#2 D.m#3 B.m#4", "D.m"), each("B.m#4", "C.m E.m#1 A.m#2 D.m#3 B.m#4", "B.m"),
		}},
		{"several methods", []string{"class A { fn m() int { } fn n() int { } } class B : A { fn o() int { } fn m() int { } } class C : B { fn o() int { } fn n() int { } }"}, [][]expected{
			each("A.m", "A.m B.m#1", "A.m"), each("B.m#1", "A.m B.m#1", "B.m", "C.m"), each("A.n", "A.n C.n#1", "A.n", "B.n"), each("C.n#1", "A.n C.n#1", "C.n"), each("", "", "A.o"), each("B.o", "B.o C.o#1", "B.o"), each("C.o#1", "B.o C.o#1", "C.o"),
		}},
		{"a base class that is not declared", []string{"class A : X " + m + " class B : A " + m + " class C : X " + m}, [][]expected{each("", "", "X.m"), each("A.m", "A.m B.m#1", "A.m"), each("C.m#2", "C.m#2", "C.m")}},

		{"a circle of one", []string{"class A : A " + m + " class B : B { }"}, [][]expected{each("A.m", "A.m", "A.m"), each("", "", "B.m")}},
		{"a circle of two with one method", []string{"class A : B " + m + " class B : A { }"}, [][]expected{each("A.m", "A.m", "A.m", "B.m")}},
		{"a circle of two with two methods", []string{"class A : B " + m + " class B : A " + m}, [][]expected{each("A.m", "A.m B.m#1", "A.m"), each("B.m#1", "A.m B.m#1", "B.m")}},
		{"a circle of three", []string{"class A : B { } class B : C " + m + " class C : A " + m}, [][]expected{each("B.m", "B.m C.m#1", "A.m", "B.m"), each("C.m#1", "B.m C.m#1", "C.m")}},
		{"a chain into a circle", []string{"class A : B " + m + " class B : C { } class C : B " + m + " class D : A { } class E : B " + n}, [][]expected{each("A.m", "A.m C.m#1", "A.m", "D.m"), each("C.m#1", "A.m C.m#1", "B.m", "C.m", "E.m"), each("E.n", "E.n", "E.n"), each("", "", "B.n", "C.n", "A.n")}},
		{"a chain with the method into a circle without it", []string{"class A : B " + m + " class B : C { } class C : B { } class D : A " + m}, [][]expected{each("A.m", "A.m D.m#1", "A.m"), each("D.m#1", "A.m D.m#1", "D.m"), each("", "", "B.m", "C.m")}},

		{"a method twice", []string{"class A " + m2 + " class B : A " + m2}, [][]expected{each("A.m", "A.m A.m#1 B.m#2 B.m#3", "A.m"), each("B.m#2", "A.m A.m#1 B.m#2 B.m#3", "B.m")}},
		{"a class twice", []string{"class A " + m + " class B : A { } class A " + m, "class A " + m2}, [][]expected{each("A.m", "A.m A.m#1 A.m#2 A.m#3", "A.m", "B.m")}},
		{"a class twice with the method in the second one", []string{"class A { } class B : A " + m + " class A " + m}, [][]expected{each("A.m#1", "B.m A.m#1", "A.m"), each("B.m", "B.m A.m#1", "B.m")}},
		{"a class twice with other base classes", []string{"class A " + m + " class B " + m + " class C : A { } class C : B " + n}, [][]expected{each("A.m", "A.m", "A.m", "C.m"), each("B.m#1", "B.m#1", "B.m"), each("C.n", "C.n", "C.n")}},
		{"a class twice, first without a base class", []string{"class A " + m + " class C " + n + " class C : A " + m}, [][]expected{each("C.m#1", "C.m#1", "C.m"), each("A.m", "A.m", "A.m")}},
	} {
		u := load(t, x.sources...)
		for _, l := range x.want {
			for _, y := range l {
				wantMethod(t, x.name, u, y.at, y.found, y.family)
			}
		}
		wantDefined(t, u)
	}
}

// P13.3, P13.4: trees that are not well-formed.
func TestMethodsOfTrees(t *testing.T) {
	inner := func(kids ...api.Node) api.Node { return node(api.KdBlock, "", kids...) }
	for _, x := range []struct {
		name string
		u    []api.Unit
		want [][]expected
	}{
		{"a method alone", units(method("m")), [][]expected{each("", "", ".m", "m.m", ".")}},
		{"a class alone", units(class("A", "A", "m")), [][]expected{each("A.m", "A.m", "A.m")}},
		{"a method in a method", units(node(api.KdClass, "A", method("m", method("n"), inner(method("o"))))), [][]expected{each("A.m", "A.m", "A.m"), each("", "", "A.n", "A.o", "m.n")}},
		{"a method in a block of a class", units(node(api.KdClass, "A", inner(method("m")), method("m"))), [][]expected{each("A.m#1", "A.m#1", "A.m")}},
		{"a method in a base", units(node(api.KdClass, "A", node(api.KdBase, "", method("m")))), [][]expected{each("", "", "A.m", ".m")}},
		{"methods before the base", units(file(class("A", "", "m"), node(api.KdClass, "B", method("n"), base("A"), method("m")), node(api.KdClass, "C", method("n"), base("B")))), [][]expected{each("B.m#1", "A.m B.m#1", "B.m", "C.m"), each("B.n", "B.n C.n#1", "B.n"), each("C.n#1", "B.n C.n#1", "C.n")}},
		{"a class in a class", units(node(api.KdClass, "A", method("m"), class("B", "A", "m"), method("n"), class("C", "B"), base("C"))), [][]expected{each("A.m", "A.m B.m#1", "A.m"), each("B.m#1", "A.m B.m#1", "B.m", "C.m"), each("A.n", "A.n", "A.n", "B.n", "C.n")}},
		{"a class in its method", units(node(api.KdClass, "A", method("m", node(api.KdClass, "A", method("m"), base("B"))), method("n")), class("B", "A", "m", "o")), [][]expected{each("A.m", "A.m A.m#1 B.m#2", "A.m"), each("B.m#2", "A.m A.m#1 B.m#2", "B.m"), each("", "", "A.o")}},
		{"empty names", units(file(class("", "", "", "m"), class("A", "", "", "n"), class("B", "A"), node(api.KdClass, "C", base(""), base("A")))), [][]expected{each(".fn", ".fn", "."), each(".m", ".m", ".m"), each("A.fn#1", "A.fn#1", "A.", "B."), each("A.n", "A.n", "A.n"), each("", "", "C.", "C.m", "C.n", "A.m", ".n")}},
		{"an empty class name with a base class", units(file(class("", "A"), class("A", "", "m"), class("B", "", "m"))), [][]expected{each("A.m", "A.m", "A.m", ".m"), each("B.m#1", "B.m#1", "B.m")}},
		{"an empty class name below", units(file(class("", "A", "m"), class("A", "", "m"))), [][]expected{each("A.m#1", ".m A.m#1", "A.m"), each(".m", ".m A.m#1", ".m")}},
		{"a class without a base in the order of the names", units(file(class("", "", "m"), class("A", "", "m"))), [][]expected{each("A.m#1", "A.m#1", "A.m"), each(".m", ".m", ".m")}},
		{"names that are equal when they are joined", units(file(class("AB", "", "C"), class("A", "", "BC"))), [][]expected{each("AB.C", "AB.C", "AB.C"), each("A.BC", "A.BC", "A.BC"), each("", "", "A.C", "AB.BC", ".ABC", "ABC.")}},
	} {
		for _, l := range x.want {
			for _, y := range l {
				wantMethod(t, x.name, x.u, y.at, y.found, y.family)
			}
		}
		wantDefined(t, x.u)
	}
}

// P13.3, P13.4: broken units between others have no methods, even if they have trees.
func TestMethodsOfUnits(t *testing.T) {
	broken := func(n api.Node) api.Unit { return api.Unit{Text: "class A { }\n", Tree: n, Broken: true} }
	good := func(n api.Node) api.Unit { return api.Unit{Text: "class", Tree: n} }
	a, b, c := file(class("A", "", "m")), file(class("B", "A", "m")), file(class("C", "B", "m"))
	for _, x := range []struct {
		name string
		u    []api.Unit
		want [][]expected
	}{
		{"all broken", []api.Unit{broken(a), broken(b)}, [][]expected{each("", "", "A.m", "B.m")}},
		{"broken ones between", []api.Unit{broken(a), good(b), broken(a), {}, good(a), broken(c)}, [][]expected{each("A.m#1", "B.m A.m#1", "A.m"), each("B.m", "B.m A.m#1", "B.m"), each("", "", "C.m")}},
		{"a broken base class", []api.Unit{broken(a), good(b), good(c)}, [][]expected{each("", "", "A.m"), each("B.m", "B.m C.m#1", "B.m"), each("C.m#1", "B.m C.m#1", "C.m")}},
		{"a broken class between", []api.Unit{good(a), broken(b), good(c)}, [][]expected{each("A.m", "A.m", "A.m"), each("C.m#1", "C.m#1", "C.m"), each("", "", "B.m")}},
		{"a broken first declaration", []api.Unit{broken(file(class("A", "", "m", "n"))), good(a), good(file(class("A", "", "m")))}, [][]expected{each("A.m", "A.m A.m#1", "A.m"), each("", "", "A.n")}},
	} {
		for _, l := range x.want {
			for _, y := range l {
				wantMethod(t, x.name, x.u, y.at, y.found, y.family)
			}
		}
		wantDefined(t, x.u)
	}
}

// P13.3, P13.4: the kinds of the nodes that matter, among all kinds and numbers that are none.
func TestKindsOfMethods(t *testing.T) {
	for kind := -3; kind < api.Kinds+3; kind++ {
		isClass, isBase, isMethod := kind == api.KdClass, kind == api.KdBase, kind == api.KdFunc
		for _, x := range []struct {
			name string
			u    []api.Unit
			is   bool
		}{
			{"a method", units(node(api.KdClass, "A", node(kind, "m")), class("B", "A")), isMethod},
			{"the class of a method", units(node(kind, "A", method("m")), class("B", "A")), isClass},
			{"the class below", units(file(class("A", "", "m"), node(kind, "B", base("A")))), isClass},
			{"the base", units(file(class("A", "", "m"), node(api.KdClass, "B", node(kind, "A")))), isBase},
			{"a node around the classes", units(node(kind, "C", class("A", "", "m"), class("B", "A"))), true},
		} {
			d, ok := classes.Lookup(x.u, "B", "m")
			family := classes.Family(x.u, "B", "m")
			if ok != x.is || (d != api.Decl{}) != x.is || (len(family) == 1) != x.is || len(family) > 1 {
				t.Errorf("%d as %s: Lookup = %v, %t, Family = %v", kind, x.name, d, ok, family)
			}
			wantDefined(t, x.u)
		}
	}
}
