package scope_test

import (
	"reflect"
	"slices"
	"testing"

	"treemerge/api"
	"treemerge/scope"
	"treemerge/tree"
)

// The tests of rule R3: arguments keep their elements, and results are new memory.

// cut returns the list as a part of a longer one.
func cut[E any](l []E, behind ...E) []E {
	return slices.Concat(l, behind)[:len(l)]
}

// cutTree returns the tree in lists that are parts of longer ones.
func cutTree(n api.Node) api.Node {
	kids := make([]api.Node, len(n.Kids))
	for k, kid := range n.Kids {
		kids[k] = cutTree(kid)
	}
	return api.Node{Kind: n.Kind, Text: n.Text, Gaps: cut(n.Gaps, " // behind\n"), Kids: cut(kids, let("behind"), use("behind"))}
}

// cutUnits returns the units in such lists.
func cutUnits(u []api.Unit) []api.Unit {
	l := cut(u, api.Unit{Path: "behind", Tree: constant("behind")})
	for i := range l {
		l[i].Tree = cutTree(l[i].Tree)
	}
	return l
}

// wholeTree returns a tree with everything that its lists hold, also behind their ends.
func wholeTree(n api.Node) api.Node {
	whole := api.Node{Kind: n.Kind, Text: n.Text, Gaps: n.Gaps[:cap(n.Gaps)]}
	for _, kid := range n.Kids[:cap(n.Kids)] {
		whole.Kids = append(whole.Kids, wholeTree(kid))
	}
	return whole
}

// wholeUnits returns units with everything that their lists hold.
func wholeUnits(u []api.Unit) []api.Unit {
	l := slices.Clone(u[:cap(u)])
	for i := range l {
		l[i].Tree = wholeTree(l[i].Tree)
	}
	return l
}

// samples are units of all sorts.
func samples(t *testing.T) [][]api.Unit {
	const source = "const a = 1; fn f(b int, b A) int { let c = a; if b < c { let a = b; c = a; } let c = d; return a; } class A : B { fn m() C { } fn m() A { } }"
	u := load(t, source, source)
	broken := append(slices.Clone(u), api.Unit{Path: "z", Text: "fn", Broken: true, Tree: let("x")})
	return append(anyTrees()[:40], nil, u, broken, units(use("x"), block(let("x"), use("x"))))
}

// The units keep their elements, and those behind the ends of their lists do not matter.
func TestUnitsAreKept(t *testing.T) {
	for _, plain := range samples(t) {
		u := cutUnits(plain)
		if got, want := results(u), results(plain); got != want {
			t.Fatalf("the results are %s, want %s", got, want)
		}
		if !reflect.DeepEqual(wholeUnits(u), wholeUnits(cutUnits(plain))) {
			t.Fatalf("the units have become %v", u)
		}
	}
}

// wantApart checks that a function returns new memory for each call: what is done to one result changes neither another one nor later ones.
func wantApart[E comparable](t *testing.T, name string, call func() []E) {
	t.Helper()
	one, other := call(), call()
	want := slices.Clone(other)
	one = one[:cap(one)]
	var zero E
	for i := range one {
		one[i] = zero
	}
	_ = append(other[:len(other):cap(other)], zero, zero)
	if !slices.Equal(other, want) || !slices.Equal(call(), want) {
		t.Errorf("%s = %v, later %v, want %v", name, other, call(), want)
	}
}

// The results share no memory with each other, nor do they change with the units.
func TestResultsAreApart(t *testing.T) {
	for _, plain := range samples(t) {
		u := cutUnits(plain)
		wantApart(t, "Uses", func() []api.Use { return scope.Uses(u) })
		wantApart(t, "Unbound", func() []api.Ref { return scope.Unbound(u) })
		wantApart(t, "Doubles", func() []api.Ref { return scope.Doubles(u) })
		var names [][]string
		for i, x := range u {
			for k := range tree.Size(x.Tree) {
				at := api.Ref{Unit: i, Node: k}
				wantApart(t, "Visible", func() []string { return scope.Visible(u, at) })
				names = append(names, scope.Visible(u, at))
			}
		}
		uses, unbound, doubles := scope.Uses(u), scope.Unbound(u), scope.Doubles(u)
		want := results(plain)
		if got := results(u); got != want {
			t.Fatalf("the results are %s, want %s", got, want)
		}
		for i := range u {
			u[i] = api.Unit{Tree: use("spoiled")}
		}
		if !slices.Equal(uses, scope.Uses(plain)) || !slices.Equal(unbound, scope.Unbound(plain)) || !slices.Equal(doubles, scope.Doubles(plain)) {
			t.Fatalf("the results have become %v, %v and %v", uses, unbound, doubles)
		}
		for i, x := range plain {
			for k := range tree.Size(x.Tree) {
				if !slices.Equal(names[0], scope.Visible(plain, api.Ref{Unit: i, Node: k})) {
					t.Fatalf("the names have become %q", names[0])
				}
				names = names[1:]
			}
		}
	}
}

// The results depend on the arguments alone: not on earlier calls with other ones.
func TestNothingIsKept(t *testing.T) {
	one := units(file(constant("a"), use("a"), node(api.KdCall, "f")))
	other := units(file(use("a"), function("f"), function("f"), node(api.KdCall, "f")))
	for range 3 {
		wantUses(t, "one", one, "name a > const a, call f > -")
		wantUses(t, "the other", other, "name a > -, call f > fn f")
		if got := places(other, scope.Doubles(other)); got != "fn f#1" || len(scope.Doubles(one)) != 0 {
			t.Errorf("Doubles = %s", got)
		}
		if l, m := scope.Visible(one, api.Ref{}), scope.Visible(other, api.Ref{}); !slices.Equal(l, []string{"a"}) || len(m) != 0 {
			t.Errorf("Visible = %q and %q", l, m)
		}
	}
}
