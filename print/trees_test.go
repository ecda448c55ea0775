package print_test

import (
	"math/rand"
	"slices"
	"strconv"
	"testing"

	"treemerge/api"
	"treemerge/grammar"
	"treemerge/tree"
)

// Makers of trees without gaps.

func node(kind int, text string, kids ...api.Node) api.Node {
	return api.Node{Kind: kind, Text: text, Kids: kids}
}

func withGaps(n api.Node, gaps ...string) api.Node {
	n.Gaps = gaps
	return n
}

func number(i int) api.Node { return node(api.KdInt, strconv.Itoa(i)) }

func variable(s string) api.Node { return node(api.KdName, s) }

func binary(operator string, a, b api.Node) api.Node { return node(api.KdBinary, operator, a, b) }

func unary(operator string, a api.Node) api.Node { return node(api.KdUnary, operator, a) }

func paren(a api.Node) api.Node { return node(api.KdParen, "", a) }

func call(f string, args ...api.Node) api.Node { return node(api.KdCall, f, args...) }

func send(receiver api.Node, m string, args ...api.Node) api.Node {
	return node(api.KdSend, m, append([]api.Node{receiver}, args...)...)
}

func create(c string) api.Node { return node(api.KdNew, c) }

func self() api.Node { return node(api.KdSelf, "self") }

func typ(s string) api.Node { return node(api.KdType, s) }

func param(s, t string) api.Node { return node(api.KdParam, s, typ(t)) }

func params(l ...api.Node) api.Node { return node(api.KdParams, "", l...) }

func block(l ...api.Node) api.Node { return node(api.KdBlock, "", l...) }

func let(s string, a api.Node) api.Node { return node(api.KdLet, s, a) }

func set(s string, a api.Node) api.Node { return node(api.KdSet, s, a) }

func ret(a api.Node) api.Node { return node(api.KdReturn, "", a) }

func do(a api.Node) api.Node { return node(api.KdDo, "", a) }

func while(a, b api.Node) api.Node { return node(api.KdWhile, "", a, b) }

func branch(a, b, otherwise api.Node) api.Node { return node(api.KdIf, "", a, b, otherwise) }

func orElse(l ...api.Node) api.Node { return node(api.KdElse, "", l...) }

func function(f string, p api.Node, t string, b api.Node) api.Node {
	return node(api.KdFunc, f, p, typ(t), b)
}

func base(c string) api.Node { return node(api.KdBase, c) }

func class(c string, b api.Node, methods ...api.Node) api.Node {
	return node(api.KdClass, c, append([]api.Node{b}, methods...)...)
}

func constant(s string, a api.Node) api.Node { return node(api.KdConst, s, a) }

func file(l ...api.Node) api.Node { return node(api.KdFile, "", l...) }

// grower makes well-formed trees. Each node has gaps with the probability share; they are taken from gaps.
type grower struct {
	*rand.Rand
	share float64
	gaps  []string
}

// pick returns one of the strings.
func (g grower) pick(l ...string) string { return l[g.Intn(len(l))] }

// some returns up to most trees.
func (g grower) some(most int, grow func(int) api.Node, levels int) []api.Node {
	var l []api.Node
	for range g.Intn(most + 1) {
		l = append(l, grow(levels))
	}
	return l
}

func (g grower) name() string { return g.pick("a", "b2", "_", "x_y", "Abc") }

// expression returns an expression of at most a few levels.
func (g grower) expression(levels int) api.Node {
	if levels <= 0 {
		return []api.Node{number(g.Intn(100)), node(api.KdBool, g.pick("true", "false")), variable(g.name()), self(), create(g.name())}[g.Intn(5)]
	}
	levels -= 1 + g.Intn(2)
	switch g.Intn(6) {
	case 0:
		return call(g.name(), g.some(3, g.expression, levels)...)
	case 1:
		return g.operation(send(g.expression(levels), g.name(), g.some(3, g.expression, levels)...))
	case 2:
		return g.operation(unary(g.pick("-", "!"), g.expression(levels)))
	case 3:
		return paren(g.expression(levels))
	}
	return g.operation(binary(g.pick("|", "&", "==", "<", "+", "-", "*", "/", "/"), g.expression(levels), g.expression(levels)))
}

// operation puts parentheses around the operands that need them.
func (g grower) operation(n api.Node) api.Node {
	for k := 0; grammar.Check(n) != api.OK; k++ {
		n.Kids[k] = paren(n.Kids[k])
	}
	return n
}

func (g grower) block(levels int) api.Node { return block(g.some(3, g.statement, levels-1)...) }

// statement returns a statement.
func (g grower) statement(levels int) api.Node {
	a := g.expression(min(levels, 3))
	switch k := g.Intn(6); {
	case k == 0:
		return let(g.name(), a)
	case k == 1:
		return set(g.name(), a)
	case k == 2 || levels <= 0:
		return ret(a)
	case k == 3:
		return branch(a, g.block(levels), g.otherwise(levels))
	case k == 4:
		return while(a, g.block(levels))
	}
	return do(a)
}

func (g grower) otherwise(levels int) api.Node { return orElse(g.some(1, g.block, levels)...) }

func (g grower) param(int) api.Node { return param(g.name(), g.name()) }

func (g grower) params(levels int) api.Node { return params(g.some(3, g.param, levels)...) }

func (g grower) function(levels int) api.Node {
	return function(g.name(), g.params(levels), g.name(), g.block(levels))
}

func (g grower) base(int) api.Node { return base(g.pick("", "B")) }

func (g grower) class(levels int) api.Node {
	return class(g.name(), g.base(levels), g.some(3, g.function, levels-1)...)
}

func (g grower) constant(levels int) api.Node { return constant(g.name(), g.expression(levels)) }

func (g grower) declaration(levels int) api.Node {
	return []func(int) api.Node{g.function, g.class, g.constant}[g.Intn(3)](levels)
}

func (g grower) file(levels int) api.Node { return file(g.some(4, g.declaration, levels)...) }

// space returns the tree with gaps in some of its nodes.
func (g grower) space(n api.Node) api.Node {
	n.Kids = slices.Clone(n.Kids)
	for k, kid := range n.Kids {
		n.Kids[k] = g.space(kid)
	}
	if g.Float64() < g.share {
		for range grammar.Own(n) {
			n.Gaps = append(n.Gaps, g.pick(g.gaps...))
		}
	}
	return n
}

// anyGaps are gaps of all sorts; the empty one, and one that begins with /, are frequent.
func anyGaps() []string {
	return []string{"", "", "", " ", "\t", "\n\n", "// c\n", "//\n\t//d\n", " // é \xff\n  "}
}

// programs returns k well-formed trees of all sorts, half of them files: without gaps, with gaps in all nodes, and with gaps in some of them.
func programs(t *testing.T, k int) []api.Node {
	g := grower{Rand: rand.New(rand.NewSource(8))}
	sorts := []func(int) api.Node{g.expression, g.statement, g.block, g.otherwise, g.param, g.params, g.function, g.base, g.class, g.constant}
	var l []api.Node
	for i := range k {
		g.share = []float64{0, 0.5, 1}[i%3]
		g.gaps = [][]string{{""}, anyGaps()}[i/3%2]
		grow := g.file
		if i%2 == 0 {
			grow = sorts[g.Intn(len(sorts))]
		}
		n := g.space(grow(g.Intn(6)))
		if e := grammar.Check(n); e != api.OK {
			t.Fatalf("Check of a well-formed tree %v = %d", n, e)
		}
		l = append(l, n)
	}
	seen := make([]int, api.Kinds)
	for _, n := range l {
		for _, r := range tree.Rows(n) {
			seen[r.Kind]++
		}
	}
	if least := slices.Min(seen[1:]); least < k/10 {
		t.Fatalf("there are only %d nodes of a kind", least)
	}
	return l
}
