package classes_test

import (
	"slices"
	"strconv"
	"testing"

	"treemerge/api"
	"treemerge/classes"
	"treemerge/project"
	"treemerge/tree"
)

// The tests of P13.1 to P13.8 for many projects, and for great ones.

// allLists returns all lists of trees that have this number of nodes together, each of them with the kind and the text of one of these nodes.
func allLists(size int, of []api.Node) [][]api.Node {
	if size == 0 {
		return [][]api.Node{nil}
	}
	var l [][]api.Node
	for first := 1; first <= size; first++ {
		rest := allLists(size-first, of)
		for _, kids := range allLists(first-1, of) {
			for _, n := range of {
				for _, others := range rest {
					l = append(l, append([]api.Node{node(n.Kind, n.Text, kids...)}, others...))
				}
			}
		}
	}
	return l
}

// allChoices returns all lists of this length of the elements.
func allChoices[E any](length int, of []E) [][]E {
	if length == 0 {
		return [][]E{nil}
	}
	var l [][]E
	for _, rest := range allChoices(length-1, of) {
		for _, x := range of {
			l = append(l, append([]E{x}, rest...))
		}
	}
	return l
}

// P13.1 to P13.4: all trees of few nodes of the kinds that matter.
func TestAllSmallTrees(t *testing.T) {
	bare := func(s string) api.Node { return node(api.KdClass, s) }
	for _, of := range [][]api.Node{
		{bare("A"), base("A"), method("m"), method("A")},
		{bare("A"), bare("B"), base("A"), base("B")},
		{bare("A"), bare(""), base("A"), base(""), method("")},
	} {
		for size := range 5 {
			for _, l := range allLists(size, of) {
				wantDefined(t, units(file(l...)))
			}
		}
	}
}

// P13.1 to P13.4: all lists of three classes, also of equal names.
func TestAllThreeClasses(t *testing.T) {
	var one []api.Node
	for _, name := range []string{"A", "B", "C"} {
		for _, baseName := range []string{"", "A", "B", "X"} {
			one = append(one, class(name, baseName), class(name, baseName, "m"))
		}
	}
	for i, l := range allChoices(3, one) {
		cut := i % 4 // where the second unit begins
		wantDefined(t, units(file(l[:cut]...), file(l[cut:]...)))
	}
}

// P13.1 to P13.4: all hierarchies of four classes, each without and with a method.
func TestAllFourClasses(t *testing.T) {
	for i, names := range allChoices(4, []string{"", "A", "B", "C", "D"}) {
		for _, has := range []int{i % 16, i * 7 % 16} {
			var l []api.Node
			for k, name := range []string{"C", "A", "D", "B"} {
				n := class(name, names[k])
				if has>>k&1 == 1 {
					n.Kids = append(n.Kids, method("m"))
				}
				l = append(l, n)
			}
			wantDefined(t, units(file(l...)))
		}
	}
}

// P13.1 to P13.4: trees of all kinds of nodes, also without a kind, and projects with each of the errors.
func TestAnyProjects(t *testing.T) {
	errs, found, families := map[api.Errno]int{}, 0, 0
	for _, u := range anyProjects() {
		wantDefined(t, u)
		e, _ := classes.Check(u)
		errs[e]++
		classNames, methodNames := modelOf(u).names()
		for _, c := range classNames {
			for _, f := range methodNames {
				if d, ok := classes.Lookup(u, c, f); ok && d.Owner != c {
					found++
				}
				if len(classes.Family(u, c, f)) > 2 {
					families++
				}
			}
		}
	}
	if len(errs) != 4 || errs[api.OK] < 200 || errs[api.ErrExists] < 200 || errs[api.ErrBind] < 100 || errs[api.ErrCycle] < 50 || found < 1000 || families < 500 {
		t.Errorf("there have been only the errors %v, %d methods of base classes and %d families", errs, found, families)
	}
}

// P13.5: if a class has no method of a name, Lookup finds what it finds for the nearest base class.
func TestLookupOfBases(t *testing.T) {
	compared := 0
	for _, u := range anyProjects() {
		classNames, methodNames := modelOf(u).names()
		for _, c := range classNames {
			supers := classes.Supers(u, c)
			for _, f := range methodNames {
				d, ok := classes.Lookup(u, c, f)
				switch _, has := project.Find(u, api.DcMethod, c, f); {
				case has:
					continue
				case len(supers) == 0:
					if ok || d != (api.Decl{}) {
						t.Fatalf("Lookup(%q, %q) = %v, %t in %v", c, f, d, ok, u)
					}
				default:
					compared++
					if x, xOk := classes.Lookup(u, supers[0], f); x != d || xOk != ok {
						t.Fatalf("Lookup(%q, %q) = %v, %t, but %v, %t for %q in %v", c, f, d, ok, x, xOk, supers[0], u)
					}
				}
			}
		}
	}
	if compared < 1000 {
		t.Errorf("there have been only %d methods to compare", compared)
	}
}

// P13.6: the base classes of a class without errors are its nearest one, followed by the base classes of that one, and never the class.
func TestSupersOfSupers(t *testing.T) {
	compared := 0
	for _, u := range anyProjects() {
		e, _ := classes.Check(u)
		classNames, _ := modelOf(u).names()
		for _, c := range classNames {
			l := classes.Supers(u, c)
			if slices.Contains(l, c) || slices.Contains(classes.Subs(u, c), c) {
				t.Fatalf("Supers(%q) = %q in %v", c, l, u)
			}
			if len(l) == 0 || e != api.OK {
				continue
			}
			compared++
			if nearest := classes.Supers(u, l[0]); !slices.Equal(l[1:], nearest) {
				t.Fatalf("Supers(%q) = %q, but %q for %q in %v", c, l, nearest, l[0], u)
			}
		}
	}
	if compared < 500 {
		t.Errorf("there have been only %d classes to compare", compared)
	}
}

// P13.7: a class is one of Subs of another one exactly if the other one is among its Supers and it is declared.
func TestSubsAndSupers(t *testing.T) {
	below := 0
	for _, u := range anyProjects() {
		classNames, _ := modelOf(u).names()
		for _, c := range classNames {
			subs := classes.Subs(u, c)
			for _, x := range classNames {
				_, isDeclared := project.Find(u, api.DcClass, "", x)
				isBelow := slices.Contains(classes.Supers(u, x), c) && isDeclared
				if slices.Contains(subs, x) != isBelow {
					t.Fatalf("Subs(%q) = %q, but Supers(%q) = %q in %v", c, subs, x, classes.Supers(u, x), u)
				}
				if isBelow {
					below++
				}
			}
		}
	}
	if below < 1000 {
		t.Errorf("only %d classes have been below others", below)
	}
}

// P13.8: in a project without errors all members of a family have the same family, and Lookup finds one of them.
func TestMembersOfFamilies(t *testing.T) {
	members := 0
	for _, u := range anyProjects() {
		if e, _ := classes.Check(u); e != api.OK {
			continue
		}
		classNames, methodNames := modelOf(u).names()
		for _, c := range classNames {
			for _, f := range methodNames {
				family := classes.Family(u, c, f)
				if d, ok := classes.Lookup(u, c, f); ok != (len(family) > 0) || ok && !slices.Contains(family, d) {
					t.Fatalf("Lookup(%q, %q) = %v, Family = %v in %v", c, f, d, family, u)
				}
				for _, d := range family {
					members++
					if l := classes.Family(u, d.Owner, d.Name); !slices.Equal(l, family) {
						t.Fatalf("Family(%q, %q) = %v, that of %q is %v in %v", c, f, family, d.Owner, l, u)
					}
				}
			}
		}
	}
	if members < 1000 {
		t.Errorf("there have been only %d members of families", members)
	}
}

// The results do not depend on gaps, nor on the kinds of nodes that the layer does not know.
func TestFormatting(t *testing.T) {
	for _, u := range anyProjects()[:200] {
		want := results(u)
		for name, change := range map[string]func(k int, r *api.Row){
			"no gaps":     func(k int, r *api.Row) { r.Gaps = nil },
			"other gaps":  func(k int, r *api.Row) { r.Gaps = []string{"class", "A", ":"}[:k%4] },
			"other texts": func(k int, r *api.Row) { r.Text = otherText(r) },
		} {
			v := slices.Clone(u)
			for i := range v {
				rows := tree.Rows(v[i].Tree)
				for k := range rows {
					change(k, &rows[k])
				}
				v[i].Tree, _ = tree.Build(rows)
				v[i].Path, v[i].Text = "other", "other"
			}
			if got := results(v); got != want {
				t.Fatalf("with %s: the results are %s, want %s", name, got, want)
			}
		}
	}
}

// otherText returns another text of a node, unless it is one of those that matter.
func otherText(r *api.Row) string {
	if r.Kind == api.KdClass || r.Kind == api.KdBase || r.Kind == api.KdFunc {
		return r.Text
	}
	return r.Text + "A"
}

// wantNames checks the number of names, the first one and the last one.
func wantNames(t *testing.T, name string, l []string, count int, first, last string) {
	t.Helper()
	if len(l) != count || count > 0 && (l[0] != first || l[count-1] != last) {
		t.Errorf("%s: there are %d names, want %d from %s to %s", name, len(l), count, first, last)
	}
}

// numbered is a name that is sorted by its number.
func numbered(i int) string {
	return "C" + strconv.Itoa(1000000+i)
}

// many is the number of classes and methods of great projects.
const many = 50000

// chain returns a file with very many classes, each with the base class that baseOf names; those with an even number have a method.
func chain(baseOf func(i int) string) []api.Unit {
	var l []api.Node
	for i := range many {
		c := class(numbered(i), baseOf(i))
		if i%2 == 0 {
			c.Kids = append(c.Kids, method("m"))
		}
		l = append(l, c)
	}
	return units(file(l[:many/3]...), file(l[many/3:]...))
}

// unlessFirst returns the name, but for the first class an empty one.
func unlessFirst(i int, name string) string {
	if i == 0 {
		return ""
	}
	return name
}

// textOf returns the text of a node.
func textOf(u []api.Unit, at api.Ref) string {
	n, _ := tree.At(u[at.Unit].Tree, at.Node)
	return n.Text
}

// P13.1 to P13.4: very long chains.
func TestLongChains(t *testing.T) {
	up := chain(func(i int) string { return numbered(i + 1) })
	if e, at := classes.Check(up); e != api.ErrBind || textOf(up, at) != numbered(many) {
		t.Errorf("Check = %d, %v", e, at)
	}
	wantNames(t, "a chain upward", classes.Supers(up, numbered(0)), many-1, numbered(1), numbered(many-1))
	wantNames(t, "a chain downward", classes.Subs(up, numbered(many-1)), many-1, numbered(0), numbered(many-2))
	wantNames(t, "a part of a chain", classes.Subs(up, numbered(many/2)), many/2, numbered(0), numbered(many/2-1))

	down := chain(func(i int) string { return unlessFirst(i, numbered(i-1)) })
	if e, at := classes.Check(down); e != api.OK || at != (api.Ref{}) {
		t.Errorf("Check = %d, %v", e, at)
	}
	wantNames(t, "the other order", classes.Supers(down, numbered(many-1)), many-1, numbered(many-2), numbered(0))
	if d, ok := classes.Lookup(down, numbered(many-1), "m"); !ok || d.Owner != numbered(many-2) {
		t.Errorf("Lookup = %v, %t", d, ok)
	}
	if l := classes.Family(down, numbered(many-1), "m"); len(l) != many/2 || l[0].Owner != numbered(0) || l[many/2-1].Owner != numbered(many-2) {
		t.Errorf("the family has %d methods", len(l))
	}
	if d, ok := classes.Lookup(down, numbered(many-1), "n"); ok || d != (api.Decl{}) || len(classes.Family(down, numbered(many-1), "n")) != 0 {
		t.Errorf("Lookup = %v, %t", d, ok)
	}
}

// P13.1 to P13.4: very long circles, and very many short ones.
func TestLongCircles(t *testing.T) {
	u := chain(func(i int) string { return numbered((i + 1) % many) })
	if e, at := classes.Check(u); e != api.ErrCycle || textOf(u, at) != numbered(0) {
		t.Errorf("Check = %d, %v", e, at)
	}
	wantNames(t, "a circle", classes.Supers(u, numbered(7)), many-1, numbered(8), numbered(6))
	wantNames(t, "a circle", classes.Subs(u, numbered(7)), many-1, numbered(0), numbered(many-1))
	if l := classes.Family(u, numbered(7), "m"); len(l) != many/2 {
		t.Errorf("the family has %d methods", len(l))
	}

	const entry = many - 100
	u = chain(func(i int) string {
		if i == many-1 {
			return numbered(entry)
		}
		return numbered(i + 1)
	})
	if e, at := classes.Check(u); e != api.ErrCycle || textOf(u, at) != numbered(entry) {
		t.Errorf("Check = %d, %v", e, at)
	}
	wantNames(t, "a chain into a circle", classes.Supers(u, numbered(0)), many-1, numbered(1), numbered(many-1))
	wantNames(t, "a class before a circle", classes.Subs(u, numbered(entry-1)), entry-1, numbered(0), numbered(entry-2))
	wantNames(t, "a class of a circle", classes.Subs(u, numbered(many-1)), many-1, numbered(0), numbered(many-2))

	u = chain(func(i int) string { return numbered(max(i^1, 2)) }) // circles of two, below which the first two classes are
	if e, at := classes.Check(u); e != api.ErrCycle || textOf(u, at) != numbered(2) {
		t.Errorf("Check = %d, %v", e, at)
	}
	wantNames(t, "one of many circles", classes.Supers(u, numbered(8)), 1, numbered(9), numbered(9))
}

// P13.1 to P13.4: very many classes below one, very many methods and bases of one, and very many declarations of one.
func TestManyClasses(t *testing.T) {
	u := chain(func(i int) string { return unlessFirst(i, numbered(0)) })
	if e, at := classes.Check(u); e != api.OK || at != (api.Ref{}) {
		t.Errorf("Check = %d, %v", e, at)
	}
	wantNames(t, "classes side by side", classes.Subs(u, numbered(0)), many-1, numbered(1), numbered(many-1))
	wantNames(t, "one of them", classes.Supers(u, numbered(many-1)), 1, numbered(0), numbered(0))
	if l := classes.Family(u, numbered(many-1), "m"); len(l) != many/2 {
		t.Errorf("the family has %d methods", len(l))
	}

	great := node(api.KdClass, "A")
	for i := range many {
		great.Kids = append(great.Kids, method(numbered(i)))
	}
	for i := range many {
		great.Kids = append(great.Kids, base(numbered(i)))
	}
	u = units(file(great, class("B", "A")), file(class(numbered(0), "", "m")))
	if e, at := classes.Check(u); e != api.OK || at != (api.Ref{}) {
		t.Errorf("Check = %d, %v", e, at)
	}
	if d, ok := classes.Lookup(u, "B", numbered(many-1)); !ok || d.At.Node != many+1 {
		t.Errorf("Lookup = %v, %t", d, ok)
	}
	if d, ok := classes.Lookup(u, "B", "m"); !ok || d.At.Unit != 1 {
		t.Errorf("Lookup = %v, %t", d, ok)
	}

	u = units(file(slices.Repeat([]api.Node{class("A", "", "m")}, many)...))
	if e, at := classes.Check(u); e != api.ErrExists || at.Node != 4 {
		t.Errorf("Check = %d, %v", e, at)
	}
	if l := classes.Family(u, "A", "m"); len(l) != many || l[many-1].At.Node != 3*many {
		t.Errorf("the family has %d methods", len(l))
	}
}

// P13.1 to P13.4: classes in the deepest trees.
func TestDeepTrees(t *testing.T) {
	const levels = 1 << 16
	n := node(api.KdClass, numbered(0), base(""))
	for i := 1; i < levels-1; i++ {
		n = node(api.KdClass, numbered(i), method("m"), n, base(numbered(i-1)))
	}
	u := units(n)
	if e, at := classes.Check(u); e != api.OK || at != (api.Ref{}) {
		t.Errorf("Check = %d, %v", e, at)
	}
	wantNames(t, "classes in each other", classes.Supers(u, numbered(levels-2)), levels-2, numbered(levels-3), numbered(0))
	wantNames(t, "classes in each other", classes.Subs(u, numbered(0)), levels-2, numbered(1), numbered(levels-2))
	if d, ok := classes.Lookup(u, numbered(1), "m"); !ok || d.At.Node != 2*(levels-3)+1 {
		t.Errorf("Lookup = %v, %t", d, ok)
	}
	if l := classes.Family(u, numbered(levels-2), "m"); len(l) != levels-2 || l[0].At.Node != 1 {
		t.Errorf("the family has %d methods", len(l))
	}
	n.Kids[2].Text = "X"
	if e, at := classes.Check(u); e != api.ErrBind || at.Node != tree.Size(n)-1 {
		t.Errorf("Check = %d, %v", e, at)
	}
}
