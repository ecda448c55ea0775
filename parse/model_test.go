package parse_test

import (
	"regexp"
	"strings"

	"treemerge/api"
	"treemerge/parse"
)

// rule is a rule of the grammar: a node of the kind consists of the parts; without a kind, the parts belong to the node around it. The parts are symbols, own tokens, and NAME, INT and END.
type rule struct {
	symbol string
	kind   int
	parts  []string
}

// rules returns the grammar of the document, where each level of operators has a symbol of its own. Expr and Stmt are the whole sources.
func rules() []rule {
	var l []rule
	add := func(symbol string, kind int, alternatives ...string) {
		for _, s := range alternatives {
			l = append(l, rule{symbol, kind, strings.Fields(s)})
		}
	}
	add("File", api.KdFile, "Declarations END")
	add("Declarations", 0, "", "Declaration Declarations")
	add("Declaration", 0, "Function", "Class")
	add("Declaration", api.KdConst, "const NAME = Or ;")
	add("Function", api.KdFunc, "fn NAME Params Type Block")
	add("Params", api.KdParams, "( )", "( ParamList )")
	add("ParamList", 0, "Param", "Param , ParamList")
	add("Param", api.KdParam, "NAME Type")
	add("Type", api.KdType, "NAME")
	add("Block", api.KdBlock, "{ Statements }")
	add("Class", api.KdClass, "class NAME Base { Methods }")
	add("Base", api.KdBase, "", ": NAME")
	add("Methods", 0, "", "Function Methods")
	add("Stmt", 0, "Statement END")
	add("Statements", 0, "", "Statement Statements")
	add("Statement", api.KdLet, "let NAME = Or ;")
	add("Statement", api.KdSet, "NAME = Or ;")
	add("Statement", api.KdReturn, "return Or ;")
	add("Statement", api.KdIf, "if Or Block Else")
	add("Statement", api.KdWhile, "while Or Block")
	add("Statement", api.KdDo, "Or ;")
	add("Else", api.KdElse, "", "else Block")
	add("Expr", 0, "Or END")
	add("Or", 0, "And")
	add("Or", api.KdBinary, "Or | And")
	add("And", 0, "Comparison")
	add("And", api.KdBinary, "And & Comparison")
	add("Comparison", 0, "Sum")
	add("Comparison", api.KdBinary, "Sum == Sum", "Sum < Sum")
	add("Sum", 0, "Product")
	add("Sum", api.KdBinary, "Sum + Product", "Sum - Product")
	add("Product", 0, "Unary")
	add("Product", api.KdBinary, "Product * Unary", "Product / Unary")
	add("Unary", 0, "Primary")
	add("Unary", api.KdUnary, "- Unary", "! Unary")
	add("Primary", api.KdInt, "INT")
	add("Primary", api.KdBool, "true", "false")
	add("Primary", api.KdName, "NAME")
	add("Primary", api.KdCall, "NAME ( )", "NAME ( Arguments )")
	add("Primary", api.KdSend, "Primary . NAME ( )", "Primary . NAME ( Arguments )")
	add("Primary", api.KdNew, "new NAME ( )")
	add("Primary", api.KdSelf, "self")
	add("Primary", api.KdParen, "( Or )")
	add("Arguments", 0, "Or", "Or , Arguments")
	return l
}

// vocabulary returns a token of each sort, END aside.
func vocabulary() []string {
	return strings.Fields("fn class const let return if else while new self true false a int 1 ( ) { } , ; : . = == < + - * / ! & |")
}

// form is a form of sources, with the function that reads it and the symbol that stands for it.
type form struct {
	symbol string
	read   func(string) (api.Node, api.Errno, int)
}

func forms() []form {
	return []form{{"File", parse.File}, {"Expr", parse.Expr}, {"Stmt", parse.Stmt}}
}

// model recognizes the beginnings of the forms by the rules, as Earley has described it.
type model struct {
	rules    []rule
	of       map[string][]int // the rules of each symbol
	nullable map[string]bool
}

func newModel() model {
	m := model{rules(), map[string][]int{}, map[string]bool{}}
	for i, r := range m.rules {
		m.of[r.symbol] = append(m.of[r.symbol], i)
		if len(r.parts) == 0 {
			m.nullable[r.symbol] = true
		}
	}
	return m
}

// item is a rule of which some parts have been read since a place of the source.
type item struct{ rule, read, since int }

// chart contains the possible items at each place of a beginning of a source.
type chart [][]item

// start returns the chart of the empty beginning.
func (m model) start(symbol string) chart {
	return m.complete(chart{{}}, item{rule: m.of[symbol][0]})
}

// step returns the chart of a beginning and one more token, or nil if no string of the form begins with it. The text of END is empty.
func (m model) step(c chart, text string) chart {
	var l []item
	for _, x := range c[len(c)-1] {
		if part := m.next(x); part != "" && m.of[part] == nil && matches(part, text) {
			l = append(l, item{x.rule, x.read + 1, x.since})
		}
	}
	if l == nil {
		return nil
	}
	return m.complete(append(c[:len(c):len(c)], nil), l...)
}

// next returns the part that follows in an item, or "" if there is none.
func (m model) next(x item) string {
	if parts := m.rules[x.rule].parts; x.read < len(parts) {
		return parts[x.read]
	}
	return ""
}

// complete returns the chart whose last place has the items, and those that follow from them.
func (m model) complete(c chart, l ...item) chart {
	last := len(c) - 1
	seen := map[item]bool{}
	add := func(x item) {
		if !seen[x] {
			seen[x] = true
			c[last] = append(c[last], x)
		}
	}
	for _, x := range l {
		add(x)
	}
	for i := 0; i < len(c[last]); i++ {
		x := c[last][i]
		part := m.next(x)
		switch {
		case part == "" && x.since < last:
			for _, y := range c[x.since] {
				if m.next(y) == m.rules[x.rule].symbol {
					add(item{y.rule, y.read + 1, y.since})
				}
			}
		case m.of[part] != nil:
			for _, r := range m.of[part] {
				add(item{rule: r, since: last})
			}
			if m.nullable[part] {
				add(item{x.rule, x.read + 1, x.since})
			}
		}
	}
	return c
}

// offending returns the index of the offending token behind the beginning of a chart, or -1 if the tokens and END are the rest of a string of the form.
func (m model) offending(c chart, tokens []string) int {
	for i, text := range append(tokens[:len(tokens):len(tokens)], "") {
		if c = m.step(c, text); c == nil {
			return i
		}
	}
	return -1
}

var (
	aName    = regexp.MustCompile(`^[A-Za-z_][A-Za-z0-9_]{0,31}$`)
	aKeyword = regexp.MustCompile(`^(fn|class|const|let|return|if|else|while|new|self|true|false)$`)
	anInt    = regexp.MustCompile(`^[0-9]+$`)
)

// matches reports whether the token is the one that the part asks for.
func matches(part, text string) bool {
	switch part {
	case "NAME":
		return aName.MatchString(text) && !aKeyword.MatchString(text)
	case "INT":
		return anInt.MatchString(text)
	case "END":
		return text == ""
	}
	return part == text
}
