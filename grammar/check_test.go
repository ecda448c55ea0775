package grammar_test

import (
	"math/big"
	"math/rand"
	"slices"
	"strconv"
	"strings"
	"testing"

	"treemerge/api"
	"treemerge/grammar"
	"treemerge/tree"
)

// The tests of P7.1.

// kidLists returns all lists of kids of at most three kinds, and those of the sample of the kind with one more.
func kidLists(kind int) [][]api.Node {
	samples := make([]api.Node, api.Kinds)
	for k := range samples[1:] {
		samples[k+1] = sample(k + 1)
	}
	l, last := [][]api.Node{nil}, [][]api.Node{nil}
	for range 3 {
		var next [][]api.Node
		for _, kids := range last {
			for _, kid := range samples[1:] {
				next = append(next, append(slices.Clone(kids), kid))
			}
		}
		l, last = append(l, next...), next
	}
	for _, kid := range samples[1:] {
		l = append(l, append(slices.Clone(samples[kind].Kids), kid))
	}
	return l
}

// The kinds and the number of the kids are those of the table.
func TestCheckKids(t *testing.T) {
	for kind := 1; kind < api.Kinds; kind++ {
		n := sample(kind)
		right := 0
		for _, n.Kids = range kidLists(kind) {
			want := nodeError(n)
			if want == api.OK {
				right++
			}
			if e := grammar.Check(n); e != want {
				t.Fatalf("Check of %v = %d, want %d", n, e, want)
			}
		}
		if right == 0 {
			t.Errorf("no %s has been right", table[kind].kind)
		}
	}
}

// A kind that is not of the table returns ErrKind at the root, and as a kid at every position.
func TestCheckStrangeKinds(t *testing.T) {
	for _, kind := range strange {
		for _, n := range []api.Node{node(kind, ""), node(kind, "a"), node(kind, "", number("1")), withGaps(node(kind, ""), "")} {
			if e := grammar.Check(n); e != api.ErrKind {
				t.Errorf("Check of the kind %d = %d", kind, e)
			}
		}
		for parent := 1; parent < api.Kinds; parent++ {
			whole := sample(parent)
			for pos := range len(whole.Kids) + 1 {
				n := whole
				n.Kids = append(slices.Clone(whole.Kids[:pos]), node(kind, "a"))
				n.Kids = append(n.Kids, whole.Kids[min(pos+1, len(whole.Kids)):]...)
				if e := grammar.Check(n); e != api.ErrKind {
					t.Errorf("Check of a %s with a kid of the kind %d = %d", table[parent].kind, kind, e)
				}
			}
		}
	}
}

// someTexts returns texts of all sorts.
func someTexts() []string {
	l := strings.Fields("fn class const let return if else while new self true false int bool abc x1 _ __9 yes True TRUE Self self_ selfs falsehood")
	l = append(l, strings.Fields("== = != <= >= && || // -- ++ -! !! === << +- 1a a1 a.b a-b (a) é aé 00 01 007 0x1 1_0 1e3 -1 +1 1.0 ²3 ٣٣")...)
	l = append(l, "", " ", "a ", " a", "\ta", "a\n", "true ", " true", "true false", "- !", "1 ", " 1", "1\n", "self\x00", "+ ", "\xff\xff\xff", "a\xffb")
	for _, k := range []int{31, 32, 33, 64, 1000} {
		l = append(l, strings.Repeat("a", k), strings.Repeat("_", k), strings.Repeat("9", k), strings.Repeat("0", k), "x"+strings.Repeat("9", k-1))
	}
	l = append(l, strings.Fields("999999999999 1000000000000 1000000000001 9999999999999 01000000000000 9223372036854775807 9223372036854775808 18446744073709551616 18446744073709551617 10000000000000000000000000")...)
	for k := range 256 {
		l = append(l, string([]byte{byte(k)}))
	}
	return l
}

// For each kind, the texts that it permits, and the error of all others.
func TestCheckTexts(t *testing.T) {
	for kind := 1; kind < api.Kinds; kind++ {
		n := sample(kind)
		right := 0
		for _, n.Text = range someTexts() {
			want := textError(kind, n.Text)
			if want == api.OK {
				right++
			}
			if e := grammar.Check(n); e != want {
				t.Errorf("Check of a %s with the text %q = %d, want %d", table[kind].kind, n.Text, e, want)
			}
		}
		if right == 0 {
			t.Errorf("no text of a %s has been right", table[kind].kind)
		}
	}
}

// Integers of all lengths, and all strings of two bytes.
func TestCheckIntegers(t *testing.T) {
	r := rand.New(rand.NewSource(1))
	var l []string
	for digits := range 40 {
		greatest := new(big.Int).Exp(big.NewInt(10), big.NewInt(int64(digits)), nil)
		for range 50 {
			l = append(l, new(big.Int).Rand(r, greatest).String())
		}
	}
	for i := range 1 << 16 {
		l = append(l, string([]byte{byte(i >> 8), byte(i)}), "1"+string([]byte{byte(i >> 8), byte(i)}))
	}
	for i := -1000; i <= 1000; i++ {
		l = append(l, strconv.Itoa(i), strconv.Itoa(api.MaxInt+i))
	}
	for _, text := range l {
		if e, want := grammar.Check(number(text)), textError(api.KdInt, text); e != want {
			t.Fatalf("Check of the integer %q = %d, want %d", text, e, want)
		}
	}
}

// operands returns an expression of each kind, and of each operator; the last one has no operator.
func operands() []api.Node {
	var l []api.Node
	for _, kind := range kindsOf(groups[3]) {
		l = append(l, sample(kind))
	}
	for _, operator := range strings.Fields("| & == < + - * / !") {
		l = append(l, node(api.KdUnary, operator, number("1")), node(api.KdBinary, operator, number("1"), number("1")))
	}
	return append(l, node(api.KdBinary, "%", number("1"), number("1")))
}

// Operands and receivers have the levels that are required.
func TestCheckLevels(t *testing.T) {
	right := 0
	check := func(n api.Node) {
		want := firstError(n)
		if want == api.OK {
			right++
		}
		if e := grammar.Check(n); e != want {
			t.Errorf("Check of %v = %d, want %d", n, e, want)
		}
	}
	for _, a := range operands() {
		for _, operator := range strings.Fields("| & == < + - * /") {
			for _, b := range operands() {
				check(node(api.KdBinary, operator, a, b))
			}
		}
		check(node(api.KdUnary, "-", a))
		check(node(api.KdUnary, "!", a))
		check(node(api.KdSend, "m", a))
		for _, b := range operands() {
			check(node(api.KdSend, "m", a, b))
			check(node(api.KdCall, "f", a, b))
		}
	}
	if right < 500 {
		t.Errorf("%d expressions have been right", right)
	}
}

// An operand without an operator has the level 0, so that the first error is that of the node above it.
func TestCheckLevelOfNoOperator(t *testing.T) {
	none, bad := node(api.KdBinary, "%", number("1"), number("1")), number("x")
	for _, n := range []api.Node{
		node(api.KdBinary, "|", none, bad), node(api.KdBinary, "|", bad, none), node(api.KdBinary, "<", none, bad),
		node(api.KdUnary, "-", none), node(api.KdSend, "m", none, bad),
	} {
		if e := grammar.Check(n); e != api.ErrKind {
			t.Errorf("Check of %v = %d", n, e)
		}
	}
	// An argument needs no level.
	if e := grammar.Check(node(api.KdCall, "f", bad, none)); e != api.ErrName {
		t.Errorf("Check of a call with two bad arguments = %d", e)
	}
}

// Gaps are none, or exactly one for each own token; each of them is trivia.
func TestCheckGaps(t *testing.T) {
	one := number("1")
	trees := []api.Node{
		node(api.KdBase, "B"), node(api.KdElse, "", sample(api.KdBlock)), node(api.KdParams, "", many(sample(api.KdParam), 3)...),
		node(api.KdCall, "f", one), node(api.KdCall, "f", one, one), node(api.KdSend, "m", one, one), node(api.KdSend, "m", one, one, one),
	}
	for kind := 1; kind < api.Kinds; kind++ {
		trees = append(trees, sample(kind))
	}
	good := []string{"", " ", "\n\t", "// c\n", " // é \xff\n\n//\n "}
	bad := []string{"a", "/", "// c", "\r", " // c\nx", "\x00", "/ /\n", "1 "}
	for _, n := range trees {
		for k := range ownOf(n) + 4 {
			l := make([]string, k)
			for i := range l {
				l[i] = good[(i+k)%len(good)]
			}
			want := api.ErrKind
			if k == 0 || k == ownOf(n) {
				want = api.OK
			}
			if e := grammar.Check(withGaps(n, l...)); e != want {
				t.Errorf("Check of a %s with %d gaps = %d, want %d", table[n.Kind].kind, k, e, want)
			}
			for i := range l {
				for _, s := range bad {
					l := slices.Clone(l)
					l[i] = s
					if e := grammar.Check(withGaps(n, l...)); e != api.ErrKind {
						t.Errorf("Check of a %s with the gap %q = %d", table[n.Kind].kind, s, e)
					}
				}
			}
		}
	}
	if e := grammar.Check(api.Node{Kind: api.KdInt, Text: "1", Gaps: []string{}, Kids: []api.Node{}}); e != api.OK {
		t.Errorf("Check with empty lists = %d", e)
	}
}

// chain returns an expression of k levels.
func chain(k int) api.Node {
	n := number("1")
	for range k - 1 {
		n = node(api.KdUnary, "-", n)
	}
	return n
}

// filled returns a block of k nodes with 200 kids, none of which has many levels; k is from 401 to 10000.
func filled(k int) api.Node {
	n := node(api.KdBlock, "")
	for i := range 200 {
		below := (k - 1) / 200
		if i < (k-1)%200 {
			below++
		}
		n.Kids = append(n.Kids, node(api.KdReturn, "", chain(below-1)))
	}
	return n
}

// limited returns the error that a well-formed tree has if it exceeds a limit.
func limited(exceeds bool) api.Errno {
	if exceeds {
		return api.ErrLimit
	}
	return api.OK
}

// The limits of nodes and levels, and one more than each of them.
func TestCheckLimits(t *testing.T) {
	for k := 3990; k <= 4010; k++ {
		n := filled(k)
		if tree.Size(n) != k {
			t.Fatalf("a tree of %d nodes has %d", k, tree.Size(n))
		}
		if e, want := grammar.Check(n), limited(k > 4000); e != want {
			t.Errorf("Check of %d nodes = %d, want %d", k, e, want)
		}
	}
	for k := 1; k < 130; k++ {
		if e, want := grammar.Check(chain(k)), limited(k > 60); e != want {
			t.Errorf("Check of %d levels = %d, want %d", k, e, want)
		}
		if e, want := grammar.Check(node(api.KdCall, "f", number("1"), chain(k), number("1"))), limited(k > 59); e != want {
			t.Errorf("Check of %d levels in an argument = %d, want %d", k, e, want)
		}
	}
	for _, n := range []api.Node{chain(1000), chain(1 << 16), node(api.KdBlock, "", many(sample(api.KdDo), 100000)...)} {
		if e := grammar.Check(n); e != api.ErrLimit {
			t.Errorf("Check far beyond a limit = %d", e)
		}
	}
}

// wide returns a tree of the kind with k kids, which is well-formed if the kind permits so many.
func wide(kind, k int) api.Node {
	if kind < 1 || kind >= api.Kinds || len(places[kind]) == 0 {
		return node(kind, "", many(number("1"), k)...)
	}
	n := sample(kind)
	last := places[kind][len(places[kind])-1]
	n.Kids = append(n.Kids, many(sample(last.kinds[0]), k-len(n.Kids))...)
	return n
}

// The limits of the kids of each kind, and one more than each of them; for numbers that are no kinds, too.
func TestCheckManyKids(t *testing.T) {
	for kind := -1; kind <= api.Kinds; kind++ {
		most, want := 200, api.ErrKind
		switch kind {
		case api.KdParams, api.KdCall:
			most, want = 16, api.OK
		case api.KdSend:
			most, want = 17, api.OK
		case api.KdFile, api.KdBlock, api.KdClass:
			want = api.OK
		}
		for k := 10; k < 210; k++ {
			if k > most {
				want = api.ErrLimit
			}
			if e := grammar.Check(wide(kind, k)); e != want {
				t.Errorf("Check of the kind %d with %d kids = %d, want %d", kind, k, e, want)
			}
		}
	}
}

// A limit counts before all other errors, wherever both are.
func TestCheckLimitFirst(t *testing.T) {
	bad := number("x")
	for _, n := range []api.Node{
		wide(api.KdFile, 201), wide(api.KdParams, 17), wide(api.KdCall, 17), wide(api.KdSend, 18), wide(0, 201), chain(70), filled(4001),
	} {
		for _, whole := range []api.Node{
			node(api.KdCall, "1", bad, n), node(0, "", bad, bad, n), node(api.KdCall, "f", n, bad), node(api.KdInt, "1", n), node(-7, "", node(27, "", n)),
			withGaps(node(api.KdParen, "x", n), "a"), node(api.KdCall, "f", node(api.KdCall, "f", bad, n, bad), bad),
		} {
			if e := grammar.Check(whole); e != api.ErrLimit {
				t.Errorf("Check of a wrong tree with the kind %d beyond a limit = %d", n.Kind, e)
			}
		}
	}
}

// The errors of a node in their order.
func TestCheckOrderInNode(t *testing.T) {
	for i, x := range []struct {
		tree api.Node
		want api.Errno
	}{
		{tree: withGaps(node(api.KdName, "1"), "a"), want: api.ErrName},
		{tree: withGaps(node(api.KdName, "1"), "", ""), want: api.ErrName},
		{tree: withGaps(node(api.KdInt, "01"), "a"), want: api.ErrName},
		{tree: withGaps(node(api.KdBase, "1"), "a"), want: api.ErrName},
		{tree: node(api.KdName, "1", number("1")), want: api.ErrKind},
		{tree: node(api.KdFunc, "1", sample(api.KdParams), sample(api.KdType)), want: api.ErrKind},
		{tree: node(api.KdSend, "1", chain(2)), want: api.ErrKind},
		{tree: node(api.KdSend, "1", number("x")), want: api.ErrName},
		{tree: node(api.KdConst, "1", sample(api.KdBlock)), want: api.ErrKind},
		{tree: node(api.KdClass, "if", node(api.KdBase, "1")), want: api.ErrName},
		{tree: withGaps(node(api.KdClass, "C", node(api.KdBase, "1")), ""), want: api.ErrKind},
	} {
		if e := grammar.Check(x.tree); e != x.want {
			t.Errorf("Check of tree %d = %d, want %d", i, e, x.want)
		}
	}
}

// spoil changes the text, the kind, the kids or the gaps of a node.
func spoil(r *rand.Rand, n *api.Node) {
	for len(n.Kids) > 0 && r.Intn(4) > 0 {
		n = &n.Kids[r.Intn(len(n.Kids))]
	}
	switch r.Intn(8) {
	case 0:
		n.Kind = r.Intn(api.Kinds + 1)
	case 1:
		n.Gaps = []string{"", " "}[:1+r.Intn(2)]
	case 2:
		n.Gaps = slices.Repeat([]string{"x"}, max(1, ownOf(*n)))
	case 3:
		n.Kids = n.Kids[:len(n.Kids)/2]
	default:
		n.Text = []string{"1", "x", "", "true", "<", "*", "%", "01"}[r.Intn(8)]
	}
}

// Of several errors, that of the first node in preorder is returned.
func TestCheckFirstNode(t *testing.T) {
	r := rand.New(rand.NewSource(3))
	names, kinds := 0, 0
	for _, whole := range programs(t, 4000) {
		for range 3 {
			n, _ := tree.At(whole, 0)
			for range 1 + r.Intn(3) {
				spoil(r, &n)
			}
			want := firstError(n)
			if e := grammar.Check(n); e != want {
				t.Fatalf("Check of %v = %d, want %d", n, e, want)
			}
			switch want {
			case api.ErrName:
				names++
			case api.ErrKind:
				kinds++
			}
		}
	}
	if names < 500 || kinds < 500 {
		t.Errorf("%d trees with ErrName, and %d with ErrKind", names, kinds)
	}
}
