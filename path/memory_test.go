package path_test

import (
	"fmt"
	"slices"
	"testing"

	"treemerge/api"
	"treemerge/path"
	"treemerge/tree"
)

// The tests of rule R3: arguments keep their elements, and results are new memory.

// longer returns the list as a part of a longer one, which goes on with more.
func longer[E any](l []E, more ...E) []E {
	return append(slices.Clone(l), more...)[:len(l)]
}

// padded returns the tree in lists that are parts of longer ones.
func padded(n api.Node) api.Node {
	n.Gaps = longer(n.Gaps, " // behind\n", "x")
	n.Kids = longer(n.Kids, number("1"), node(api.KdBlock, "behind"), number("2"))
	for k, kid := range n.Kids {
		n.Kids[k] = padded(kid)
	}
	return n
}

// memory writes everything that the lists of a tree hold, also behind their ends.
func memory(n api.Node) string {
	s := fmt.Sprintf("%d %q %d%q %d(", n.Kind, n.Text, len(n.Gaps), n.Gaps[:cap(n.Gaps)], len(n.Kids))
	for _, kid := range n.Kids[:cap(n.Kids)] {
		s += memory(kid)
	}
	return s + ")"
}

// spoil changes everything that the lists of a tree hold, also behind their ends.
func spoil(n api.Node) {
	for i := range n.Gaps[:cap(n.Gaps)] {
		n.Gaps[:cap(n.Gaps)][i] += "spoiled"
	}
	for k, kid := range n.Kids[:cap(n.Kids)] {
		spoil(kid)
		n.Kids[:cap(n.Kids)][k] = node(77, "spoiled")
	}
}

// spoilPath changes all numbers of a path, also behind its end.
func spoilPath(p []int) {
	for i := range p[:cap(p)] {
		p[:cap(p)][i] += 1000
	}
}

// results calls all functions that return trees.
func results(n api.Node, p []int, x api.Node) []api.Node {
	var l []api.Node
	add := func(n api.Node, e api.Errno) {
		if e == api.OK {
			l = append(l, n)
		}
	}
	add(path.Get(n, p))
	add(path.Replace(n, p, x))
	add(path.Insert(n, p, x))
	add(path.Remove(n, p))
	return l
}

// someGrafts returns a declaration, a method, a statement and an expression.
func someGrafts(t *testing.T) []api.Node {
	t.Helper()
	l := file(t, "class A { fn m( ) int { } }\nfn f ( a int , b A ) int { return f ( 1 , a ) ; }").Kids
	return append(l, stmt(t, "if a { f( ); } else { }"), expr(t, "f ( 1 , a . m ( 2 ) )"), withGaps(node(api.KdParam, "a", node(api.KdType, "int")), " "))
}

// Arguments keep their elements, also those behind the ends of their lists, during the calls and when the results are changed.
func TestArgumentsAreKept(t *testing.T) {
	right := 0
	for _, n := range samples(t) {
		n = padded(n)
		before := memory(n)
		for _, x := range someGrafts(t) {
			x = padded(x)
			beforeX := memory(x)
			for _, p := range append(paths(n), insertionPaths(n)...) {
				p := longer(p, 0, 7, 0, 1)
				beforeP := slices.Clone(p[:cap(p)])
				l := results(n, p, x)
				right += len(l)
				path.Index(n, p)
				for _, r := range l {
					spoil(r)
				}
				if memory(n) != before || memory(x) != beforeX || !slices.Equal(p[:cap(p)], beforeP) {
					t.Fatalf("at %v, the arguments have become %v, %v", p, n, x)
				}
			}
		}
		for i := range tree.Size(n) {
			p, _ := path.Of(n, i)
			q, _ := path.Of(n, i)
			spoilPath(p)
			if r, _ := path.Of(n, i); memory(n) != before || !slices.Equal(q, r) {
				t.Fatalf("a path of the index %d has changed", i)
			}
		}
	}
	if right < 1500 {
		t.Errorf("only %d calls have been right", right)
	}
}

// Results keep their elements when the arguments are changed, and other results.
func TestResultsAreKept(t *testing.T) {
	n := file(t, "fn f( a int ) int { return f ( a , 1 ); }")
	for _, x := range someGrafts(t) {
		for _, p := range append(paths(n), insertionPaths(n)...) {
			m, y, q := padded(n), padded(x), longer(p, 1, 0)
			want, spoiled, l := results(n, p, x), results(m, q, y), results(m, q, y)
			for _, r := range spoiled {
				spoil(r)
			}
			spoil(m)
			spoil(y)
			spoilPath(q)
			if !slices.EqualFunc(l, want, tree.Equal) {
				t.Fatalf("at %v, the results have become %v, want %v", p, l, want)
			}
		}
	}
}

// gapLists and kidLists return all lists of a tree.
func gapLists(n api.Node) [][]string {
	l := [][]string{n.Gaps}
	for _, k := range n.Kids {
		l = append(l, gapLists(k)...)
	}
	return l
}

func kidLists(n api.Node) [][]api.Node {
	l := [][]api.Node{n.Kids}
	for _, k := range n.Kids {
		l = append(l, kidLists(k)...)
	}
	return l
}

// apart reports whether no two of the lists share memory, also behind their ends.
func apart[E any](l [][]E) bool {
	seen := map[*E]bool{}
	for _, list := range l {
		list = list[:cap(list)]
		for i := range list {
			if seen[&list[i]] {
				return false
			}
			seen[&list[i]] = true
		}
	}
	return true
}

// The lists of a result are apart, even if those of the arguments are the same memory.
func TestListsAreApart(t *testing.T) {
	gaps := []string{" ", "", " ", "\n"}
	arguments := []api.Node{withGaps(node(api.KdName, "a"), gaps[:1]...), withGaps(number("1"), gaps[:1]...)}
	call := withGaps(node(api.KdCall, "f", arguments...), gaps...)
	n := withGaps(node(api.KdCall, "f", call, call), gaps...)
	right := 0
	for _, x := range []api.Node{call, arguments[0], n} {
		for _, p := range append(paths(n), insertionPaths(n)...) {
			for _, r := range results(n, p, x) {
				right++
				if !apart(gapLists(r)) || !apart(kidLists(r)) {
					t.Errorf("at %v, the lists of %v are not apart", p, r)
				}
				if !apart(append(gapLists(r), gaps)) || !apart(append(kidLists(r), arguments)) || !apart(append(kidLists(r), n.Kids)) {
					t.Errorf("at %v, the lists of %v are those of the arguments", p, r)
				}
			}
		}
	}
	if right < 100 {
		t.Errorf("only %d calls have been right", right)
	}
}

// A tree that is inserted into itself, and one that replaces a part of itself.
func TestTreeInItself(t *testing.T) {
	n := expr(t, "f( a , g(1))")
	for i := range tree.Size(n) {
		p, _ := path.Of(n, i)
		got, e := path.Replace(n, p, n)
		want, wantError := wellFormed(replaced(n, p, n))
		wantChange(t, "Replace", p, got, e, want, wantError)
		p = append(p, 0)
		got, e = path.Insert(n, p, n)
		want, wantError = wellFormed(inserted(n, p, n))
		wantChange(t, "Insert", p, got, e, want, wantError)
	}
}
