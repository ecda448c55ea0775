package grammar_test

import (
	"math"
	"reflect"
	"slices"
	"testing"

	"treemerge/api"
	"treemerge/grammar"
	"treemerge/tree"
)

// P7.2: nodes of all kinds, well-formed or not: only the kind, an empty Text and the number of kids count.
func TestOwn(t *testing.T) {
	kinds := slices.Clone(strange)
	for kind := 1; kind < api.Kinds; kind++ {
		kinds = append(kinds, kind)
	}
	for _, kind := range kinds {
		for _, text := range []string{"", "a", "1", "?", " "} {
			for _, k := range []int{0, 1, 2, 3, 4, 16, 17, 18, 200, 300} {
				for _, kid := range []api.Node{number("1"), {}, node(api.KdFile, "x"), node(-1, "")} {
					n := withGaps(node(kind, text, many(kid, k)...), "x", "y")
					if got, want := grammar.Own(n), ownOf(n); got != want {
						t.Errorf("Own of the kind %d with %q and %d kids = %d, want %d", kind, text, k, got, want)
					}
				}
			}
		}
	}
}

// P7.3: a kid fits a position if the table has its kind there; before the first one and beyond the last one nothing fits.
func TestFits(t *testing.T) {
	for parent := -2; parent < api.Kinds+2; parent++ {
		for kid := -2; kid < api.Kinds+2; kid++ {
			for _, pos := range []int{math.MinInt, -2, -1, 0, 1, 2, 3, 4, 5, 16, 17, 199, 200, 1000, math.MaxInt} {
				if got, want := grammar.Fits(parent, pos, kid), fits(parent, pos, kid); got != want {
					t.Errorf("Fits(%d, %d, %d) = %t", parent, pos, kid, got)
				}
			}
		}
	}
	if !grammar.Fits(api.KdClass, 3, api.KdFunc) || grammar.Fits(api.KdClass, 0, api.KdFunc) {
		t.Errorf("the example of the chapter does not hold")
	}
}

// P7.3: numbers that are no kinds fit nowhere, and nothing fits them.
func TestFitsStrangeKinds(t *testing.T) {
	for _, kind := range strange {
		for pos := -1; pos < 5; pos++ {
			for _, other := range append(kindsOf(groups[1]+" "+groups[2]+" "+groups[3]), strange...) {
				if grammar.Fits(kind, pos, other) || grammar.Fits(other, pos, kind) {
					t.Errorf("the kinds %d and %d fit at %d", kind, other, pos)
				}
			}
		}
	}
}

// P7.4: only the order of the kids of a file and of a class does not matter.
func TestFree(t *testing.T) {
	for kind := 1; kind < api.Kinds; kind++ {
		if got, want := grammar.Free(kind), slices.Contains(kindsOf("KdFile KdClass"), kind); got != want {
			t.Errorf("Free(%s) = %t", table[kind].kind, got)
		}
	}
	for _, kind := range strange {
		if grammar.Free(kind) {
			t.Errorf("Free(%d) = true", kind)
		}
	}
}

// P7.5: the levels of nodes of all kinds with all sorts of texts, well-formed or not.
func TestLevel(t *testing.T) {
	kinds := slices.Clone(strange)
	for kind := 1; kind < api.Kinds; kind++ {
		kinds = append(kinds, kind)
	}
	for _, kind := range kinds {
		for _, text := range someTexts() {
			for _, n := range []api.Node{node(kind, text), node(kind, text, number("1"), node(0, "")), withGaps(node(kind, text), "x")} {
				if got, want := grammar.Level(n), levelOf(n); got != want {
					t.Fatalf("Level of the kind %d with %q = %d, want %d", kind, text, got, want)
				}
			}
		}
	}
}

// P7.5: the groups of all kinds.
func TestGroup(t *testing.T) {
	for kind := 1; kind < api.Kinds; kind++ {
		want := 0
		for group, names := range groups {
			if slices.Contains(kindsOf(names), kind) {
				want = group
			}
		}
		if got := grammar.Group(kind); got != want {
			t.Errorf("Group(%s) = %d, want %d", table[kind].kind, got, want)
		}
	}
	for _, kind := range strange {
		if got := grammar.Group(kind); got != 0 {
			t.Errorf("Group(%d) = %d", kind, got)
		}
	}
}

// P7.6: the kids of a well-formed tree are well-formed and fit their positions; there are at most MaxKids.
func TestGrammarParts(t *testing.T) {
	trees := programs(t, 2000)
	for _, kind := range kindsOf("KdFile KdBlock KdClass KdParams KdCall KdSend") {
		for _, k := range []int{16, 17, 18, 199, 200, 201, 300} {
			trees = append(trees, wide(kind, k))
		}
	}
	for _, n := range trees {
		if grammar.Check(n) != api.OK {
			continue
		}
		if len(n.Kids) > 200 {
			t.Errorf("a well-formed %s has %d kids", table[n.Kind].kind, len(n.Kids))
		}
		for pos, kid := range n.Kids {
			if e := grammar.Check(kid); e != api.OK || !grammar.Fits(n.Kind, pos, kid.Kind) {
				t.Errorf("Check of kid %d of a well-formed %s = %d", pos, table[n.Kind].kind, e)
			}
		}
	}
}

// P7.7: a well-formed tree remains well-formed without its gaps.
func TestBare(t *testing.T) {
	spaced := 0
	for _, n := range programs(t, 2000) {
		if len(n.Gaps) > 0 {
			spaced++
		}
		if e := grammar.Check(tree.Bare(n)); e != api.OK {
			t.Errorf("Check of %v without gaps = %d", n, e)
		}
	}
	if spaced < 500 {
		t.Errorf("%d trees have gaps", spaced)
	}
}

// P7.8: each expression of a well-formed tree may have parentheses around it.
func TestParen(t *testing.T) {
	replaced := 0
	for _, n := range programs(t, 1000) {
		rows := tree.Rows(n)
		for i := range rows[1:] {
			whole, _ := tree.At(n, 0)
			if !enclose(&whole, i+1) {
				continue
			}
			replaced++
			if e := grammar.Check(whole); e != api.OK {
				t.Errorf("Check of %v with parentheses around the node %d = %d", n, i+1, e)
			}
		}
	}
	if replaced < 1000 {
		t.Errorf("%d expressions are replaced", replaced)
	}
}

// enclose puts parentheses around the node with the index i, if it is an expression.
func enclose(n *api.Node, i int) bool {
	if i == 0 {
		*n = node(api.KdParen, "", *n)
		return grammar.Group(n.Kids[0].Kind) == 3
	}
	i--
	for k := range n.Kids {
		size := tree.Size(n.Kids[k])
		if i < size {
			return enclose(&n.Kids[k], i)
		}
		i -= size
	}
	return false
}

// P7.8: parentheses are well-formed as long as no limit is exceeded.
func TestParenBeyondLimit(t *testing.T) {
	full := node(api.KdParen, "", chain(api.MaxDepth-1))
	if e := grammar.Check(full); e != api.OK {
		t.Errorf("Check of the greatest depth = %d", e)
	}
	if e := grammar.Check(node(api.KdParen, "", full)); e != api.ErrLimit {
		t.Errorf("Check with parentheses beyond the greatest depth = %d", e)
	}
}

// The examples of the chapter.
func TestExamples(t *testing.T) {
	one := number("1")
	sum := node(api.KdBinary, "+", one, one)
	for i, x := range []struct {
		tree api.Node
		want api.Errno
	}{
		{tree: node(api.KdBinary, "*", sum, one), want: api.ErrKind},
		{tree: node(api.KdBinary, "*", node(api.KdParen, "", sum), one)},
		{tree: number("007"), want: api.ErrName},
		{tree: number("1000000000001"), want: api.ErrName},
		{tree: node(api.KdBool, "yes"), want: api.ErrKind},
	} {
		if e := grammar.Check(x.tree); e != x.want {
			t.Errorf("Check of example %d = %d, want %d", i, e, x.want)
		}
	}
	for i, x := range []struct {
		tree api.Node
		want int
	}{
		{tree: node(api.KdCall, "f", one, one, one), want: 5},
		{tree: node(api.KdSend, "m", one), want: 4},
		{tree: node(api.KdBase, ""), want: 0},
	} {
		if own := grammar.Own(x.tree); own != x.want {
			t.Errorf("Own of example %d = %d, want %d", i, own, x.want)
		}
	}
}

// R1: the zero node, and trees of the greatest depth.
func TestAnyTree(t *testing.T) {
	var zero api.Node
	if e, own, level := grammar.Check(zero), grammar.Own(zero), grammar.Level(zero); e != api.ErrKind || own != 0 || level != 0 {
		t.Errorf("Check, Own and Level of the zero node = %d, %d, %d", e, own, level)
	}
	deep := node(0, "x")
	for range 1<<16 - 1 {
		deep = node(api.KdParams, "x", deep)
	}
	if e, own, level := grammar.Check(deep), grammar.Own(deep), grammar.Level(deep); e != api.ErrLimit || own != 2 || level != 0 {
		t.Errorf("Check, Own and Level of a deep tree = %d, %d, %d", e, own, level)
	}
}

// R3: the arguments are not modified.
func TestArguments(t *testing.T) {
	for _, n := range programs(t, 300) {
		before, _ := tree.At(n, 0)
		after, _ := tree.At(n, 0)
		grammar.Check(after)
		grammar.Own(after)
		grammar.Level(after)
		if !reflect.DeepEqual(before, after) {
			t.Errorf("%v is modified to %v", before, after)
		}
	}
}
