package path_test

import (
	"math"
	"slices"
	"strings"
	"testing"

	"treemerge/api"
	"treemerge/path"
	"treemerge/tree"
)

// The tests of P10.1, P10.2 and P10.7.

// shapes returns a tree of each shape of k nodes, with kinds, texts and gaps that occur more than once, and are no program.
func shapes(k int) []api.Node {
	var all []api.Node
	for _, kids := range forests(k - 1) {
		all = append(all, withGaps(node(k-3, "x", kids...), strings.Split("x// c", "/")[:k%4]...))
	}
	return all
}

// forests returns all lists of trees that have k nodes together.
func forests(k int) [][]api.Node {
	if k == 0 {
		return [][]api.Node{nil}
	}
	var all [][]api.Node
	for first := 1; first <= k; first++ {
		for _, n := range shapes(first) {
			for _, rest := range forests(k - first) {
				all = append(all, append([]api.Node{n}, rest...))
			}
		}
	}
	return all
}

// trees returns the trees of all shapes of at most 7 nodes, and the samples.
func trees(t *testing.T) []api.Node {
	t.Helper()
	all := samples(t)
	for k := 1; k <= 7; k++ {
		all = append(all, shapes(k)...)
	}
	if len(all) < 190 {
		t.Fatalf("there are only %d trees", len(all))
	}
	return all
}

// wantPath checks Of, Index and Get for a node and its path.
func wantPath(t *testing.T, n api.Node, i int, p []int) {
	t.Helper()
	if got, ok := path.Of(n, i); !ok || !slices.Equal(got, p) {
		t.Errorf("Of(%d) = %v, %t, want %v", i, got, ok, p)
	}
	if got, ok := path.Index(n, p); !ok || got != i {
		t.Errorf("Index(%v) = %d, %t, want %d", p, got, ok, i)
	}
	want, _ := tree.At(n, i)
	if got, e := path.Get(n, p); e != api.OK || !tree.Equal(got, want) {
		t.Errorf("Get(%v) = %v, %d, want %v", p, got, e, want)
	}
}

// wantNoNode checks Index and Get for a path that leads to no node.
func wantNoNode(t *testing.T, n api.Node, p []int) {
	t.Helper()
	if got, ok := path.Index(n, p); ok || got != 0 {
		t.Errorf("Index(%v) = %d, %t, want none", p, got, ok)
	}
	if got, e := path.Get(n, p); e != api.ErrNone || !isZero(got) {
		t.Errorf("Get(%v) = %v, %d, want none", p, got, e)
	}
}

// P10.1, P10.2: every node of every shape has the path that the definition gives it.
func TestPathsOfAllNodes(t *testing.T) {
	for _, n := range trees(t) {
		l := paths(n)
		if len(l) != tree.Size(n) {
			t.Fatalf("%v has %d paths", n, len(l))
		}
		m := newModel(n)
		for i, p := range l {
			wantPath(t, n, i, p)
			if got, _ := path.Get(n, p); !tree.Equal(got, m.tree(write(p))) {
				t.Errorf("Get(%v) = %v, want %v", p, got, m.tree(write(p)))
			}
		}
	}
}

// P10.1: there is no node with another index.
func TestNoSuchIndex(t *testing.T) {
	for _, n := range trees(t) {
		size := tree.Size(n)
		for _, i := range []int{-1, -2, -size, math.MinInt, math.MinInt + 1, size, size + 1, 2 * size, 1 << 32, math.MaxInt - 1, math.MaxInt} {
			if p, ok := path.Of(n, i); ok || len(p) != 0 {
				t.Errorf("Of(%d) of %d nodes = %v, %t", i, size, p, ok)
			}
		}
	}
}

// P10.1, P10.2: paths that lead to no node, by a wrong number at each place, and below leaves.
func TestNoSuchPath(t *testing.T) {
	for _, n := range trees(t) {
		m := newModel(n)
		for _, p := range wrongPaths(n) {
			if m.has(write(p)) {
				t.Fatalf("%v leads to a node", p)
			}
			wantNoNode(t, n, p)
		}
	}
}

// P10.1, P10.2: all paths of at most four small numbers.
func TestShortPaths(t *testing.T) {
	l := [][]int{{}}
	for at := 0; len(l[at]) < 4; at++ {
		for k := -1; k <= 4; k++ {
			l = append(l, append(slices.Clone(l[at]), k))
		}
	}
	for k := 1; k <= 6; k++ {
		for _, n := range shapes(k) {
			of := paths(n)
			for _, p := range l {
				if i := slices.IndexFunc(of, func(q []int) bool { return slices.Equal(p, q) }); i >= 0 {
					wantPath(t, n, i, p)
				} else {
					wantNoNode(t, n, p)
				}
			}
		}
	}
}

// P10.1, P10.2: the root is found by the empty path, whether that is nil or not.
func TestRoot(t *testing.T) {
	for _, n := range []api.Node{{}, number("1"), node(api.KdFile, "", node(api.KdConst, "a", number("1")))} {
		wantPath(t, n, 0, nil)
		wantPath(t, n, 0, []int{})
	}
}

// P10.7: Index of the path of a node is its index.
func TestIndexOfPath(t *testing.T) {
	for _, n := range trees(t) {
		for i := range tree.Size(n) {
			p, ok := path.Of(n, i)
			if !ok {
				t.Errorf("Of(%d) of %d nodes is none", i, tree.Size(n))
			}
			if at, ok := path.Index(n, p); !ok || at != i {
				t.Errorf("Index(Of(%d)) = %d, %t", i, at, ok)
			}
		}
	}
}

// P10.1, P10.2: the first example of the chapter, and paths of a program.
func TestPathsOfPrograms(t *testing.T) {
	sum := expr(t, "1 + 2")
	if p, ok := path.Of(sum, 2); !ok || !slices.Equal(p, []int{1}) {
		t.Errorf("Of(2) = %v, %t", p, ok)
	}
	if n, e := path.Get(sum, []int{1, 0}); e != api.ErrNone || !isZero(n) {
		t.Errorf("Get(1 0) = %v, %d", n, e)
	}
	n := file(t, "fn f(a int, b int) int { return a + b; }\nconst c = 1;\n")
	for _, x := range []struct {
		path []int
		want api.Node
	}{
		{path: []int{0, 0, 1}, want: withGaps(node(api.KdParam, "b", withGaps(node(api.KdType, "int"), " ")), " ")},
		{path: []int{0, 1}, want: withGaps(node(api.KdType, "int"), " ")},
		{path: []int{0, 2, 0, 0, 1}, want: withGaps(node(api.KdName, "b"), " ")},
		{path: []int{1, 0}, want: withGaps(number("1"), " ")},
		{path: []int{1}, want: withGaps(node(api.KdConst, "c", withGaps(number("1"), " ")), "\n", " ", " ", "")},
	} {
		if got, e := path.Get(n, x.path); e != api.OK || !tree.Equal(got, x.want) {
			t.Errorf("Get(%v) = %v, %d, want %v", x.path, got, e, x.want)
		}
	}
}

// P10.1, P10.2 (R1, R8): trees of as many levels as the rules promise, and of many kids.
func TestGreatTrees(t *testing.T) {
	const levels = 1 << 16
	one := []api.Node{number("1")}
	deep := node(api.KdUnary, "-")
	for range levels - 1 {
		deep = node(api.KdCall, "f", one[0], deep, one[0])
	}
	size := 3*levels - 2
	below := slices.Repeat([]int{1}, levels-1)
	for i, p := range map[int][]int{0: {}, 1: {0}, 2: {1}, size - 1: {2}, 2*levels - 2: below, 2*levels - 3: append(below[:levels-2:levels-2], 0), 2*levels - 1: append(below[:levels-2:levels-2], 2)} {
		if got, ok := path.Of(deep, i); !ok || !slices.Equal(got, p) {
			t.Errorf("Of(%d) has %d numbers, %t", i, len(got), ok)
		}
		if got, ok := path.Index(deep, p); !ok || got != i {
			t.Errorf("Index of %d numbers = %d, %t, want %d", len(p), got, ok, i)
		}
	}
	if p, ok := path.Of(deep, size); ok || len(p) != 0 {
		t.Errorf("Of(%d) has %d numbers, %t", size, len(p), ok)
	}
	if n, e := path.Get(deep, below); e != api.OK || !tree.Equal(n, node(api.KdUnary, "-")) {
		t.Errorf("Get of the deepest node = %v, %d", n, e)
	}
	wantNoNode(t, deep, append(below, 0))
	wantNoNode(t, number("1"), make([]int, 1<<20))
	wide := node(api.KdBlock, "", slices.Repeat([]api.Node{node(api.KdDo, "", number("1"))}, 100000)...)
	wantPath(t, wide, 2*99999+2, []int{99999, 0})
	wantNoNode(t, wide, []int{100000})
}
