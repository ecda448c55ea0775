package classes

import (
	"slices"

	"treemerge/api"
)

// bases contains the base name of each declared class.
type bases map[string]string

// baseNode is the KdBase from which a class has its base name.
type baseNode struct {
	name string
	at   api.Ref
}

// basesOf returns the base names of the classes of a project. The declarations are visited from their end, so that of equal names the first one is stored last.
func basesOf(u []api.Unit, decls []api.Decl) bases {
	nodes := baseNodes(u)
	b := make(bases)
	for _, d := range slices.Backward(decls) {
		if d.Kind == api.DcClass {
			b[d.Name] = nodes[d.At].name
		}
	}
	return b
}

// baseNodes returns, by its node, the first KdBase of each KdClass that has one.
func baseNodes(u []api.Unit) map[api.Ref]baseNode {
	m := make(map[api.Ref]baseNode)
	for i, x := range u {
		if !x.Broken {
			addBaseNodes(m, x.Tree, api.Ref{Unit: i})
		}
	}
	return m
}

// addBaseNodes adds the ones of the tree n, whose root is the node at, and returns the node behind the last one of the tree.
func addBaseNodes(m map[api.Ref]baseNode, n api.Node, at api.Ref) api.Ref {
	next := api.Ref{Unit: at.Unit, Node: at.Node + 1}
	hasBase := n.Kind != api.KdClass
	for _, kid := range n.Kids {
		if !hasBase && kid.Kind == api.KdBase {
			m[at] = baseNode{kid.Text, next}
			hasBase = true
		}
		next = addBaseNodes(m, kid, next)
	}
	return next
}

// next returns the nearest base class of a class, or an empty string if it has none.
func (b bases) next(class string) string {
	name := b[class]
	if _, ok := b[name]; !ok {
		return ""
	}
	return name
}

// line returns the class and its base classes, from the nearest one on.
func (b bases) line(class string) []string {
	return append([]string{class}, b.supers(class)...)
}

// supers returns the base classes of a class, from the nearest one on.
func (b bases) supers(class string) []string {
	var l []string
	seen := map[string]bool{class: true}
	for name := b.next(class); name != "" && !seen[name]; name = b.next(name) {
		seen[name] = true
		l = append(l, name)
	}
	return l
}

// subs returns the sorted list of the declared classes that have the class among their base classes.
//
// Each class has one nearest base class at the most, so that the search from the class downward meets it once; only the class itself can be met again, at the end of a circle.
func (b bases) subs(class string) []string {
	below := make(map[string][]string)
	for name := range b {
		if base := b.next(name); base != "" {
			below[base] = append(below[base], name)
		}
	}
	l := []string{class}
	for i := 0; i < len(l); i++ {
		for _, name := range below[l[i]] {
			if name != class {
				l = append(l, name)
			}
		}
	}
	l = l[1:]
	slices.Sort(l)
	return l
}

// circles returns the set of the classes whose chains of base names come back to them.
//
// A walk along a chain ends where an earlier walk has been, as all that follows is known. A walk that meets itself has found a circle. So no class is passed by two walks, however long the chains are.
func (b bases) circles() map[string]bool {
	inCircle := make(map[string]bool)
	walk := make(map[string]int) // the number of the walk that has passed a class
	number := 0
walks:
	for start := range b {
		number++
		name := start
		for walk[name] != number {
			if name == "" || walk[name] != 0 {
				continue walks
			}
			walk[name] = number
			name = b.next(name)
		}
		for ; !inCircle[name]; name = b.next(name) {
			inCircle[name] = true
		}
	}
	return inCircle
}
