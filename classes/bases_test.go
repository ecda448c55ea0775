package classes_test

import (
	"strings"
	"testing"

	"treemerge/api"
	"treemerge/classes"
)

// The tests of P13.2.

// wantEach checks what Supers or Subs returns for classes: the names with blanks between them.
func wantEach(t *testing.T, name string, call func(u []api.Unit, class string) []string, u []api.Unit, want map[string]string) {
	t.Helper()
	for class, l := range want {
		if got := strings.Join(call(u, class), " "); got != l {
			t.Errorf("%s of %q = %q, want %q", name, class, got, l)
		}
	}
	wantDefined(t, u)
}

// wantSupers checks the base classes of classes.
func wantSupers(t *testing.T, name string, u []api.Unit, want map[string]string) {
	t.Helper()
	wantEach(t, name+": Supers", classes.Supers, u, want)
}

// wantSubs checks the classes that have classes among their base classes.
func wantSubs(t *testing.T, name string, u []api.Unit, want map[string]string) {
	t.Helper()
	wantEach(t, name+": Subs", classes.Subs, u, want)
}

// P13.2: the base classes in files.
func TestSupersOfFiles(t *testing.T) {
	for _, x := range []struct {
		name    string
		sources []string
		want    map[string]string
	}{
		{"no units", nil, map[string]string{"A": "", "": ""}},
		{"an empty file", []string{""}, map[string]string{"A": "", "": ""}},
		{"the example", []string{"class A { } class B : A { } class C : B { }"}, map[string]string{"A": "", "B": "A", "C": "B A", "D": "", "": "", "a": "", "A ": ""}},
		{"the example of a circle", []string{"class A : B { } class B : A { }"}, map[string]string{"A": "B", "B": "A"}},
		{"any order", []string{"class Z : Y { } class X : W { }", "class W { }", "class Y : X { }"}, map[string]string{"Z": "Y X W", "Y": "X W", "X": "W", "W": ""}},
		{"names that are not sorted", []string{"class M { } class A : M { } class Z : A { } class B : Z { }"}, map[string]string{"B": "Z A M", "Z": "A M"}},
		{"side by side", []string{"class A { } class B : A { } class C : A { } class D : B { } class E : C { }"}, map[string]string{"B": "A", "C": "A", "D": "B A", "E": "C A"}},
		{"a base class that is not declared", []string{"class A : X { } class B : A { }"}, map[string]string{"A": "", "B": "A", "X": ""}},
		{"a base class that is a function, a constant or a method", []string{"class A : f { } class B : c { } class C : m { fn m() int { } } fn f() int { } const c = 1;"}, map[string]string{"A": "", "B": "", "C": "", "f": "", "c": "", "m": ""}},
		{"a class named int", []string{"class int { } class A : int { } class B : bool { }"}, map[string]string{"A": "int", "B": "", "int": ""}},

		{"a circle of one", []string{"class A : A { }"}, map[string]string{"A": ""}},
		{"a circle of three", []string{"class A : B { } class B : C { } class C : A { }"}, map[string]string{"A": "B C", "B": "C A", "C": "A B"}},
		{"a circle of four", []string{"class A : B { } class B : C { } class C : D { } class D : A { }"}, map[string]string{"A": "B C D", "B": "C D A", "C": "D A B", "D": "A B C"}},
		{"a chain into a circle of one", []string{"class A : B { } class B : C { } class C : C { }"}, map[string]string{"A": "B C", "B": "C", "C": ""}},
		{"a chain into a circle of three", []string{"class A : B { } class B : C { } class C : D { } class D : E { } class E : C { }"}, map[string]string{"A": "B C D E", "B": "C D E", "C": "D E", "D": "E C", "E": "C D"}},

		{"a class twice", []string{"class A { } class B { } class C : A { } class C : B { }"}, map[string]string{"C": "A"}},
		{"a class twice, first without a base", []string{"class A { } class C { } class C : A { } class D : C { }"}, map[string]string{"C": "", "D": "C"}},
		{"a class twice, first with one that is not declared", []string{"class A { } class C : X { }", "class C : A { }"}, map[string]string{"C": ""}},
		{"a class twice in units", []string{"class A { } class B { }", "class C : B { }", "class C : A { }"}, map[string]string{"C": "B"}},
		{"a class twice within a chain", []string{"class D : C { } class C : B { } class C : A { } class B { } class A { }"}, map[string]string{"D": "C B", "C": "B"}},
		{"a class twice, last in a circle", []string{"class A { } class B : A { } class A : B { }"}, map[string]string{"A": "", "B": "A"}},
		{"a class twice, first in a circle", []string{"class A : B { } class B : A { } class A { }"}, map[string]string{"A": "B", "B": "A"}},
	} {
		wantSupers(t, x.name, load(t, x.sources...), x.want)
	}
}

// P13.2: the classes below a class in files.
func TestSubsOfFiles(t *testing.T) {
	for _, x := range []struct {
		name    string
		sources []string
		want    map[string]string
	}{
		{"no units", nil, map[string]string{"A": "", "": ""}},
		{"an empty file", []string{""}, map[string]string{"A": "", "": ""}},
		{"the example", []string{"class A { } class B : A { } class C : B { }"}, map[string]string{"A": "B C", "B": "C", "C": "", "D": "", "": "", "a": ""}},
		{"sorted", []string{"class M { } class Z : M { } class b : M { } class A : Z { } class a : A { } class B1 : b { } class B : b { }"}, map[string]string{"M": "A B B1 Z a b", "Z": "A a", "b": "B B1"}},
		{"side by side", []string{"class D : B { } class E : C { }", "class A { } class C : A { } class B : A { } class F { }"}, map[string]string{"A": "B C D E", "B": "D", "C": "E", "F": ""}},
		{"of classes that are not declared", []string{"class A : X { } class B : X { } class C : A { } class D : f { } fn f() int { }"}, map[string]string{"X": "", "f": "", "A": "C"}},
		{"a class named int", []string{"class int { } class A : int { } class B : bool { }"}, map[string]string{"int": "A", "bool": ""}},

		{"a circle of one", []string{"class A : A { }"}, map[string]string{"A": ""}},
		{"a circle of two", []string{"class A : B { } class B : A { }"}, map[string]string{"A": "B", "B": "A"}},
		{"a circle of three", []string{"class C : A { } class A : B { } class B : C { }"}, map[string]string{"A": "B C", "B": "A C", "C": "A B"}},
		{"chains into a circle", []string{"class A : B { } class B : C { } class C : B { } class D : A { } class E : C { }"}, map[string]string{"A": "D", "B": "A C D E", "C": "A B D E", "D": "", "E": ""}},
		{"a chain into a circle of one", []string{"class A : B { } class B : C { } class C : C { }"}, map[string]string{"A": "", "B": "A", "C": "A B"}},

		{"a class twice", []string{"class A { } class B { } class C : A { } class C : B { }"}, map[string]string{"A": "C", "B": ""}},
		{"a class twice with one base", []string{"class A { } class C : A { } class C : A { } class D : C { }"}, map[string]string{"A": "C D", "C": "D"}},
		{"a base class twice", []string{"class A { } class A { } class B : A { }", "class A : B { }"}, map[string]string{"A": "B", "B": ""}},
		{"a class twice, first without a base", []string{"class A { }", "class C { } class D : C { }", "class C : A { }"}, map[string]string{"A": "", "C": "D"}},
	} {
		wantSubs(t, x.name, load(t, x.sources...), x.want)
	}
}

// P13.2: trees that are not well-formed.
func TestBasesOfTrees(t *testing.T) {
	a, b := class("A", ""), class("B", "")
	inner := func(kids ...api.Node) api.Node { return node(api.KdBlock, "", kids...) }
	for _, x := range []struct {
		name string
		c    api.Node
		want string
	}{
		{"no kids", node(api.KdClass, "C"), ""},
		{"no base", node(api.KdClass, "C", method("m"), inner(base("A"))), ""},
		{"an empty base", node(api.KdClass, "C", base("")), ""},
		{"a base", node(api.KdClass, "C", base("A")), "A"},
		{"several bases", node(api.KdClass, "C", base("B"), base("A"), base("A")), "B"},
		{"several bases, first an empty one", node(api.KdClass, "C", base(""), base("A")), ""},
		{"several bases, first one that is not declared", node(api.KdClass, "C", base("X"), base("A")), ""},
		{"several bases, first the class itself", node(api.KdClass, "C", base("C"), base("A")), ""},
		{"a base as the last kid", node(api.KdClass, "C", method("m"), method("n", inner(base("A"))), base("B")), "B"},
		{"bases between methods", node(api.KdClass, "C", method("m"), base("A"), method("n"), base("B"), method("o")), "A"},
		{"a base in a base", node(api.KdClass, "C", node(api.KdBase, "", base("A"))), ""},
		{"a base in a base with a name", node(api.KdClass, "C", node(api.KdBase, "B", base("A"))), "B"},
		{"a base in another node before the base", node(api.KdClass, "C", inner(base("A"), inner(base("A"))), base("B")), "B"},
		{"a base in an inner class", node(api.KdClass, "C", node(api.KdClass, "D", base("A"))), ""},
		{"a base behind an inner class", node(api.KdClass, "C", class("D", "A"), base("B")), "B"},
		{"gaps and kids of the base", node(api.KdClass, "C", api.Node{Kind: api.KdBase, Text: "A", Gaps: []string{"", ""}, Kids: []api.Node{base("B")}}), "A"},
	} {
		for i, u := range [][]api.Unit{units(file(a, x.c, b)), units(file(b), file(inner(x.c)), a), units(x.c, a, b), units(node(api.KdClass, "E", x.c, base("C")), file(b, a))} {
			wantSupers(t, x.name, u, map[string]string{"C": x.want, "A": "", "B": ""})
			subs := "C"
			if i == 3 {
				subs = "C E"
			}
			for _, class := range []string{"A", "B"} {
				want := map[string]string{class: ""}
				if class == x.want {
					want[class] = subs
				}
				if strings.Contains(x.name, "inner class") && class == "A" {
					want[class] = "D"
				}
				wantSubs(t, x.name, u, want)
			}
		}
	}
	wantSupers(t, "an empty class name", units(file(class("", "A"), a, class("B", ""))), map[string]string{"": "A", "A": "", "B": ""})
	wantSubs(t, "an empty class name", units(file(class("", "A"), a, class("B", ""), node(api.KdClass, "C"))), map[string]string{"": "", "A": "", "B": ""})
	if l := classes.Subs(units(file(class("", "A"), a)), "A"); len(l) != 1 || l[0] != "" {
		t.Errorf("Subs = %q, want that with the empty name", l)
	}
	wantSupers(t, "classes in each other", units(class("A", ""), node(api.KdClass, "B", base("A"), method("m", inner(class("C", "B"))))), map[string]string{"C": "B A"})
	wantSupers(t, "names of all sorts", units(file(class("é", "e\u0301"), class("e\u0301", "\xff"), class("\xff", "\x00"), class("\x00", "A.m"), class("A.m", " "))), map[string]string{"é": "e\u0301 \xff \x00 A.m", "\xfe": ""})
	wantSubs(t, "names of all sorts", units(file(class("é", "A"), a, class("\xff", "A"), class("A ", "A"), class("\x00", "A"))), map[string]string{"A": "\x00 A  é \xff"})
}

// P13.2: broken units between others have no classes, even if they have trees.
func TestBasesOfUnits(t *testing.T) {
	broken := func(n api.Node) api.Unit { return api.Unit{Text: "class A { }\n", Tree: n, Broken: true} }
	good := func(n api.Node) api.Unit { return api.Unit{Text: "class", Tree: n} }
	a, b, c := file(class("A", "")), file(class("B", "A")), file(class("C", "B"))
	for _, x := range []struct {
		name         string
		u            []api.Unit
		supers, subs map[string]string
	}{
		{"all broken", []api.Unit{broken(a), broken(b), broken(c)}, map[string]string{"A": "", "B": "", "C": ""}, map[string]string{"A": "", "B": "", "C": ""}},
		{"broken ones between", []api.Unit{broken(file(class("B", "C"))), good(c), {}, broken(file(class("C", "A"))), good(b), good(a), broken(a)}, map[string]string{"A": "", "B": "A", "C": "B A"}, map[string]string{"A": "B C", "B": "C", "C": ""}},
		{"a broken base class", []api.Unit{broken(a), good(b), good(c)}, map[string]string{"A": "", "B": "", "C": "B"}, map[string]string{"A": "", "B": "C"}},
		{"a broken class between", []api.Unit{good(a), broken(b), good(c)}, map[string]string{"B": "", "C": ""}, map[string]string{"A": "", "B": ""}},
		{"a broken first declaration", []api.Unit{good(a), broken(file(class("C", "A"))), good(b), good(c), good(file(class("C", "A")))}, map[string]string{"C": "B A"}, map[string]string{"A": "B C"}},
	} {
		wantSupers(t, x.name, x.u, x.supers)
		wantSubs(t, x.name, x.u, x.subs)
	}
}
