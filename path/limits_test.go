package path_test

import (
	"slices"
	"strconv"
	"strings"
	"testing"

	"treemerge/api"
	"treemerge/grammar"
	"treemerge/path"
	"treemerge/tree"
)

// The tests of P10.3 to P10.5 with trees that are not well-formed.

// chain returns an expression of k levels.
func chain(k int) api.Node {
	n := number("1")
	for range k - 1 {
		n = node(api.KdUnary, "-", n)
	}
	return n
}

// many returns k times the tree.
func many(n api.Node, k int) []api.Node { return slices.Repeat([]api.Node{n}, k) }

// P10.3 to P10.5: trees whose kind does not fit the place, that want parentheses, or that are not well-formed.
func TestWrongTrees(t *testing.T) {
	one, sum, minus := number("1"), expr(t, "1 + 2"), expr(t, "-1")
	block := node(api.KdBlock, "")
	for i, x := range []struct {
		tree api.Node
		path string
		add  api.Node
		want string
	}{
		{tree: expr(t, "1 * 2"), path: "0", add: sum},
		{tree: expr(t, "1 * 2"), path: "1", add: sum},
		{tree: expr(t, "1 * 2"), path: "1", add: expr(t, "1 / 2")},
		{tree: expr(t, "1 * 2"), path: "0", add: expr(t, "1 / 2"), want: "1 / 2 * 2"},
		{tree: expr(t, "1 < 2"), path: "0", add: expr(t, "1 == 2")},
		{tree: expr(t, "1 - 2"), path: "0", add: sum, want: "1 + 2 - 2"},
		{tree: expr(t, "1 - 2"), path: "1", add: sum},
		{tree: expr(t, "!a"), path: "0", add: sum},
		{tree: expr(t, "!a"), path: "0", add: minus, want: "!-1"},
		{tree: expr(t, "(a)"), path: "0", add: sum, want: "(1 + 2)"},
		{tree: expr(t, "a.m()"), path: "0", add: minus},
		{tree: expr(t, "a.m()"), path: "0", add: expr(t, "f(1)"), want: "f(1).m()"},
		{tree: expr(t, "a.m(b)"), path: "1", add: sum, want: "a.m(1 + 2)"},
		{tree: expr(t, "f(1)"), path: "0", add: block},
		{tree: expr(t, "f(1)"), path: "0", add: stmt(t, "f();")},
		{tree: expr(t, "f(1)"), path: "0", add: number("01")},
		{tree: expr(t, "f(1)"), path: "0", add: withGaps(one, "x")},
		{tree: expr(t, "f(1)"), path: "0", add: withGaps(one, " ", " ")},
		{tree: expr(t, "f(1)"), path: "0", add: node(api.KdName, "fn")},
		{tree: expr(t, "f(1)"), path: "0", add: node(api.KdParen, "")},
		{tree: node(api.KdCall, "f", number("x"), one), path: "1", add: one},
		{tree: node(api.KdCall, "fn", one), path: "0", add: one},
		{tree: node(api.KdInt, "1", one), path: "0", add: one},
		{tree: node(99, "", one), path: "0", add: one},
		{tree: withGaps(node(api.KdCall, "f", one), ""), path: "0", add: one},
		{tree: node(api.KdCall, "f", number("x"), one), path: "0", add: one, want: "f(1, 1)"},
		{tree: node(api.KdUnary, "-", api.Node{}), path: "0", add: one, want: "-1"},
	} {
		got, e := path.Replace(x.tree, numbers(x.path), x.add)
		if x.want == "" {
			wantChange(t, "Replace "+strconv.Itoa(i), numbers(x.path), got, e, api.Node{}, api.ErrKind)
		} else if e != api.OK || !tree.Same(got, expr(t, x.want)) {
			t.Errorf("Replace %d = %v, %d, want %s", i, got, e, x.want)
		}
	}
}

// P10.5: a node that lacks a part then is not well-formed; neither is a tree that was not before.
func TestRemoveParts(t *testing.T) {
	n := file(t, everything)
	for kind, lacking := range map[int][]int{
		api.KdFunc: {0, 1, 2}, api.KdParam: {0}, api.KdClass: {0}, api.KdConst: {0}, api.KdLet: {0}, api.KdSet: {0}, api.KdReturn: {0},
		api.KdIf: {0, 1, 2}, api.KdWhile: {0, 1}, api.KdDo: {0}, api.KdBinary: {0, 1}, api.KdUnary: {0}, api.KdParen: {0},
	} {
		for i, p := range paths(n) {
			at, _ := tree.At(n, i)
			if at.Kind != kind {
				continue
			}
			for _, k := range lacking {
				got, e := path.Remove(n, append(slices.Clone(p), k))
				wantChange(t, "Remove", p, got, e, api.Node{}, api.ErrKind)
			}
		}
	}
	bad := node(api.KdCall, "f", number("1"), number("x"))
	got, e := path.Remove(bad, []int{0})
	wantChange(t, "Remove", []int{0}, got, e, api.Node{}, api.ErrKind)
	got, e = path.Remove(bad, []int{1})
	wantChange(t, "Remove", []int{1}, got, e, node(api.KdCall, "f", number("1")), api.OK)
}

// P10.4: parts that a node has already, or that do not fit the place.
func TestInsertParts(t *testing.T) {
	one, block := number("1"), node(api.KdBlock, "")
	function := file(t, "fn f() int { }").Kids[0]
	class := file(t, "class A { }").Kids[0]
	for i, x := range []struct {
		tree api.Node
		path string
		add  api.Node
		want api.Errno
	}{
		{tree: one, path: "0", add: one, want: api.ErrKind},
		{tree: expr(t, "1 + 2"), path: "0", add: one, want: api.ErrKind},
		{tree: expr(t, "1 + 2"), path: "2", add: one, want: api.ErrKind},
		{tree: expr(t, "-1"), path: "1", add: one, want: api.ErrKind},
		{tree: expr(t, "(1)"), path: "0", add: one, want: api.ErrKind},
		{tree: expr(t, "a.m()"), path: "0", add: expr(t, "-1"), want: api.ErrKind},
		{tree: expr(t, "a.m()"), path: "1", add: expr(t, "-1")},
		{tree: class, path: "0", add: function, want: api.ErrKind},
		{tree: class, path: "0", add: node(api.KdBase, ""), want: api.ErrKind},
		{tree: class, path: "1", add: function},
		{tree: class, path: "1", add: class, want: api.ErrKind},
		{tree: function, path: "3", add: block, want: api.ErrKind},
		{tree: function, path: "2", add: block, want: api.ErrKind},
		{tree: node(api.KdElse, ""), path: "0", add: block},
		{tree: node(api.KdElse, "", block), path: "0", add: block, want: api.ErrKind},
		{tree: node(api.KdElse, "", block), path: "1", add: block, want: api.ErrKind},
		{tree: block, path: "0", add: one, want: api.ErrKind},
		{tree: node(api.KdFile, ""), path: "0", add: function},
		{tree: node(api.KdFile, ""), path: "0", add: node(api.KdFile, ""), want: api.ErrKind},
		{tree: node(api.KdCall, "f"), path: "0", add: number("x"), want: api.ErrKind},
		{tree: node(api.KdCall, "fn"), path: "0", add: one, want: api.ErrKind},
		{tree: node(api.KdCall, "f", number("x")), path: "1", add: one, want: api.ErrKind},
		{tree: node(-5, ""), path: "0", add: one, want: api.ErrKind},
		{tree: node(api.KdReturn, ""), path: "0", add: one},
		{tree: node(api.KdIf, "", one, node(api.KdElse, "")), path: "1", add: block},
		{tree: node(api.KdBinary, "+", one), path: "0", add: one},
	} {
		got, e := path.Insert(x.tree, numbers(x.path), x.add)
		if e != x.want || isZero(got) == (e == api.OK) {
			t.Errorf("Insert %d = %v, %d, want %d", i, got, e, x.want)
		}
	}
}

// filled returns a block of k nodes with 200 kids, none of which has many levels; k is from 401 to 10000.
func filled(k int) api.Node {
	n := node(api.KdBlock, "")
	for i := range 200 {
		below := (k - 1) / 200
		if i < (k-1)%200 {
			below++
		}
		n.Kids = append(n.Kids, node(api.KdReturn, "", chain(below-1)))
	}
	return n
}

// wantLimit checks a change that keeps within the limits exactly if right.
func wantLimit(t *testing.T, name string, n api.Node, e api.Errno, right bool) {
	t.Helper()
	if right && (e != api.OK || grammar.Check(n) != api.OK) || !right && (e != api.ErrKind || !isZero(n)) {
		t.Errorf("%s: %d nodes, %d", name, tree.Size(n), e)
	}
}

// P10.3 to P10.5: the numbers of nodes and levels, and one more than the greatest ones, before and after a change.
func TestLimitsOfTrees(t *testing.T) {
	for k := api.MaxNodes - 3; k <= api.MaxNodes+3; k++ {
		full := filled(k)
		below := tree.Size(full.Kids[9])
		n, e := path.Replace(full, []int{9, 0}, chain(below))
		wantLimit(t, "Replace by one node more in "+strconv.Itoa(k), n, e, k+1 <= api.MaxNodes)
		n, e = path.Replace(full, []int{9, 0}, chain(below-2))
		wantLimit(t, "Replace by one node less in "+strconv.Itoa(k), n, e, k-1 <= api.MaxNodes)
		n, e = path.Replace(number("1"), nil, full)
		wantLimit(t, "Replace by "+strconv.Itoa(k), n, e, k <= api.MaxNodes)
		n, e = path.Remove(full, []int{199})
		wantLimit(t, "Remove in "+strconv.Itoa(k), n, e, k-tree.Size(full.Kids[199]) <= api.MaxNodes)
		full.Kids[9] = node(api.KdReturn, "", node(api.KdCall, "f"))
		n, e = path.Insert(full, []int{9, 0, 0}, chain(below-2))
		wantLimit(t, "Insert in "+strconv.Itoa(k), n, e, k <= api.MaxNodes)
	}
	for k := api.MaxDepth - 3; k <= api.MaxDepth+3; k++ {
		down := make([]int, k-1)
		n, e := path.Replace(chain(k), down, chain(2))
		wantLimit(t, "Replace by one level more", n, e, k+1 <= api.MaxDepth)
		n, e = path.Replace(chain(k), down[1:], number("1"))
		wantLimit(t, "Replace by one level less", n, e, k-1 <= api.MaxDepth)
		n, e = path.Insert(node(api.KdCall, "f"), []int{0}, chain(k))
		wantLimit(t, "Insert of levels", n, e, k+1 <= api.MaxDepth)
		n, e = path.Remove(node(api.KdCall, "f", chain(k), chain(1)), []int{1})
		wantLimit(t, "Remove beside levels", n, e, k+1 <= api.MaxDepth)
		n, e = path.Remove(node(api.KdCall, "f", chain(k), chain(1)), []int{0})
		wantLimit(t, "Remove of levels", n, e, true)
	}
}

// P10.3 to P10.5: the numbers of kids, and one more than the greatest ones, before and after a change.
func TestLimitsOfKids(t *testing.T) {
	one := number("1")
	function := file(t, "fn f() int { }").Kids[0]
	for _, x := range []struct {
		empty api.Node
		kid   api.Node
		most  int
	}{
		{empty: node(api.KdBlock, ""), kid: node(api.KdDo, "", one), most: 200},
		{empty: node(api.KdFile, ""), kid: node(api.KdConst, "a", one), most: 200},
		{empty: node(api.KdClass, "A", node(api.KdBase, "")), kid: function, most: 200},
		{empty: node(api.KdParams, ""), kid: node(api.KdParam, "a", node(api.KdType, "int")), most: 16},
		{empty: node(api.KdCall, "f"), kid: one, most: 16},
		{empty: node(api.KdSend, "m", one), kid: one, most: 17},
	} {
		least := len(x.empty.Kids)
		for k := x.most - 2; k <= x.most+2; k++ {
			n := x.empty
			n.Kids = append(n.Kids[:least:least], many(x.kid, k-least)...)
			for _, at := range []int{least, k - 1, k} {
				got, e := path.Insert(n, []int{at}, x.kid)
				wantLimit(t, "Insert", got, e, k+1 <= x.most)
				if at < k {
					got, e = path.Remove(n, []int{at})
					wantLimit(t, "Remove", got, e, k-1 <= x.most)
					got, e = path.Replace(n, []int{at}, x.kid)
					wantLimit(t, "Replace", got, e, k <= x.most)
				}
			}
		}
	}
}

// P10.4, P10.5: a node that has a wrong number of gaps is right without them, if its number of own tokens changes.
func TestWrongGaps(t *testing.T) {
	one := number("1")
	for k := range 7 {
		gaps := slices.Repeat([]string{" "}, k)
		for _, x := range []struct {
			tree         api.Node
			insertRights string // numbers of gaps with which Insert succeeds
			removeRights string
		}{
			{tree: node(api.KdCall, "f"), insertRights: "03"},
			{tree: node(api.KdCall, "f", one), insertRights: "0123456", removeRights: "03"},
			{tree: node(api.KdCall, "f", one, one), insertRights: "0123456", removeRights: "0123456"},
			{tree: node(api.KdSend, "m", one), insertRights: "04"},
			{tree: node(api.KdBlock, "", node(api.KdDo, "", one)), removeRights: "02"},
		} {
			n := withGaps(x.tree, gaps...)
			last := len(n.Kids) - 1
			got, e := path.Insert(n, []int{last + 1}, one)
			wantLimit(t, "Insert with gaps", got, e, strings.Contains(x.insertRights, strconv.Itoa(k)))
			if last >= 0 {
				got, e = path.Remove(n, []int{last})
				wantLimit(t, "Remove with gaps", got, e, strings.Contains(x.removeRights, strconv.Itoa(k)))
			}
		}
	}
}

// P10.3 to P10.5: where ErrNone and ErrKind apply, ErrNone is returned.
func TestErrNoneFirst(t *testing.T) {
	bad := node(api.KdCall, "fn", number("x"), node(api.KdDo, ""), chain(100))
	for _, n := range []api.Node{bad, {}, number("x"), expr(t, "f(1, 2, 3)")} {
		for _, x := range []api.Node{bad, {}, number("x"), node(api.KdBlock, "")} {
			for _, p := range [][]int{{4}, {-1}, {3, 1, 0}, {0, -1}, {0, 0, 0}, {3, 0, 2, 0}} {
				got, e := path.Replace(n, p, x)
				wantChange(t, "Replace", p, got, e, api.Node{}, api.ErrNone)
				got, e = path.Insert(n, p, x)
				wantChange(t, "Insert", p, got, e, api.Node{}, api.ErrNone)
				got, e = path.Remove(n, p)
				wantChange(t, "Remove", p, got, e, api.Node{}, api.ErrNone)
			}
		}
	}
}

// P10.3 to P10.5 (R1, R8): trees of as many levels as the rules promise, and of many kids.
func TestChangesOfGreatTrees(t *testing.T) {
	const levels = 1 << 16
	deep := chain(levels)
	down := make([]int, levels-1)
	for _, p := range [][]int{down, down[1:], down[:60], append(down, 0)} {
		want := api.ErrKind
		if len(p) == levels {
			want = api.ErrNone
		}
		got, e := path.Replace(deep, p, number("2"))
		wantChange(t, "Replace in a deep tree", nil, got, e, api.Node{}, want)
		got, e = path.Remove(deep, p)
		wantChange(t, "Remove in a deep tree", nil, got, e, api.Node{}, want)
	}
	got, e := path.Insert(deep, append(down, 0), number("2"))
	wantChange(t, "Insert in a deep tree", nil, got, e, api.Node{}, api.ErrKind)
	got, e = path.Insert(node(api.KdCall, "f"), []int{0}, deep)
	wantChange(t, "Insert of a deep tree", nil, got, e, api.Node{}, api.ErrKind)
	got, e = path.Replace(deep, down[:59], number("1"))
	wantChange(t, "Replace of a deep tree", nil, got, e, chain(60), api.OK)
	got, e = path.Remove(node(api.KdCall, "f", deep), []int{0})
	wantChange(t, "Remove of a deep tree", nil, got, e, node(api.KdCall, "f"), api.OK)
	wide := node(api.KdWhile, "", number("1"), node(api.KdBlock, "", many(node(api.KdDo, "", number("1")), 100000)...))
	got, e = path.Remove(wide, []int{1, 99999})
	wantChange(t, "Remove in a wide tree", nil, got, e, api.Node{}, api.ErrKind)
	got, e = path.Replace(wide, []int{1}, node(api.KdBlock, ""))
	wantChange(t, "Replace of a wide tree", nil, got, e, node(api.KdWhile, "", number("1"), node(api.KdBlock, "")), api.OK)
}
