package classes_test

import (
	"reflect"
	"slices"
	"strconv"
	"testing"

	"treemerge/api"
	"treemerge/classes"
)

// The tests of rule R3: arguments keep their elements, and results are new memory.

// results returns what all functions return for units, for all names.
func results(u []api.Unit) string {
	write := func(l ...int) (s string) {
		for _, i := range l {
			s += strconv.Itoa(i) + ","
		}
		return s
	}
	e, at := classes.Check(u)
	s := write(int(e), at.Unit, at.Node)
	classNames, methodNames := modelOf(u).names()
	for _, c := range classNames {
		for _, l := range [][]string{{"class", c, "above"}, classes.Supers(u, c), {"below"}, classes.Subs(u, c)} {
			for _, name := range l {
				s += strconv.Quote(name)
			}
		}
		for _, f := range methodNames {
			d, ok := classes.Lookup(u, c, f)
			s += strconv.FormatBool(ok)
			for _, d := range append([]api.Decl{d}, classes.Family(u, c, f)...) {
				s += write(d.Kind, d.At.Unit, d.At.Node) + strconv.Quote(d.Owner) + strconv.Quote(d.Name)
			}
		}
	}
	return s
}

// cut returns the list as a part of a longer one.
func cut[E any](l []E, behind ...E) []E {
	return slices.Concat(l, behind)[:len(l)]
}

// cutTree returns the tree in lists that are parts of longer ones.
func cutTree(n api.Node) api.Node {
	kids := make([]api.Node, len(n.Kids))
	for k, kid := range n.Kids {
		kids[k] = cutTree(kid)
	}
	return api.Node{Kind: n.Kind, Text: n.Text, Gaps: cut(n.Gaps, " // behind\n"), Kids: cut(kids, base("A"), method("m"), class("B", "A", "m"))}
}

// cutUnits returns the units in such lists.
func cutUnits(u []api.Unit) []api.Unit {
	l := cut(u, api.Unit{Path: "behind", Tree: class("A", "A", "m", "m")})
	for i := range l {
		l[i].Tree = cutTree(l[i].Tree)
	}
	return l
}

// wholeTree returns a tree with everything that its lists hold, also behind their ends.
func wholeTree(n api.Node) api.Node {
	whole := api.Node{Kind: n.Kind, Text: n.Text, Gaps: n.Gaps[:cap(n.Gaps)]}
	for _, kid := range n.Kids[:cap(n.Kids)] {
		whole.Kids = append(whole.Kids, wholeTree(kid))
	}
	return whole
}

// wholeUnits returns units with everything that their lists hold.
func wholeUnits(u []api.Unit) []api.Unit {
	l := slices.Clone(u[:cap(u)])
	for i := range l {
		l[i].Tree = wholeTree(l[i].Tree)
	}
	return l
}

// samples are units of all sorts.
func samples(t *testing.T) [][]api.Unit {
	const source = "class A { fn m() int { } } class B : A { fn m() int { } fn n() int { } } class C : B { } class D : A { fn m() int { } } class E : X { }"
	return append(anyProjects()[:100], nil, load(t, source), load(t, source, source), load(t, "class A : B { fn m() int { } } class B : A { fn m() int { } }", source))
}

// The units keep their elements, and those behind the ends of their lists do not matter.
func TestUnitsAreKept(t *testing.T) {
	for _, plain := range samples(t) {
		u := cutUnits(plain)
		if got, want := results(u), results(plain); got != want {
			t.Fatalf("the results are %s, want %s", got, want)
		}
		if !reflect.DeepEqual(wholeUnits(u), wholeUnits(cutUnits(plain))) {
			t.Fatalf("the units have become %v", u)
		}
	}
}

// wantApart checks that a function returns new memory for each call: what is done to one result changes neither another one nor later ones.
func wantApart[E comparable](t *testing.T, name string, call func() []E) {
	t.Helper()
	one, other := call(), call()
	want := slices.Clone(other)
	one = one[:cap(one)]
	var zero E
	for i := range one {
		one[i] = zero
	}
	_ = append(other[:len(other):cap(other)], zero, zero)
	if !slices.Equal(other, want) || !slices.Equal(call(), want) {
		t.Errorf("%s = %v, later %v, want %v", name, other, call(), want)
	}
}

// The results share no memory with each other, nor do they change with the units.
func TestResultsAreApart(t *testing.T) {
	for _, plain := range samples(t) {
		u := cutUnits(plain)
		classNames, methodNames := modelOf(u).names()
		var names [][]string
		var families [][]api.Decl
		for _, c := range classNames {
			wantApart(t, "Supers", func() []string { return classes.Supers(u, c) })
			wantApart(t, "Subs", func() []string { return classes.Subs(u, c) })
			names = append(names, classes.Supers(u, c), classes.Subs(u, c))
			for _, f := range methodNames {
				wantApart(t, "Family", func() []api.Decl { return classes.Family(u, c, f) })
				families = append(families, classes.Family(u, c, f))
			}
		}
		if got, want := results(u), results(plain); got != want {
			t.Fatalf("the results are %s, want %s", got, want)
		}
		for i := range u {
			u[i] = api.Unit{Tree: class("spoiled", "A", "m")}
		}
		for i, c := range classNames {
			if !slices.Equal(names[2*i], classes.Supers(plain, c)) || !slices.Equal(names[2*i+1], classes.Subs(plain, c)) {
				t.Fatalf("the names have become %q and %q", names[2*i], names[2*i+1])
			}
			for k, f := range methodNames {
				if !slices.Equal(families[i*len(methodNames)+k], classes.Family(plain, c, f)) {
					t.Fatalf("the methods have become %v", families[i*len(methodNames)+k])
				}
			}
		}
	}
}

// The results depend on the arguments alone: not on earlier calls with other ones, nor on the order in which maps are visited.
func TestNothingIsKept(t *testing.T) {
	var all [][]api.Unit
	var want []string
	for _, u := range samples(t) {
		all = append(all, u)
		want = append(want, results(u))
	}
	for range 5 {
		for i, u := range slices.Backward(all) {
			if got := results(u); got != want[i] {
				t.Fatalf("the results are %s, before they were %s", got, want[i])
			}
		}
	}
}
