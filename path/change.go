package path

import (
	"treemerge/api"
	"treemerge/grammar"
)

// Replace returns the tree n in which the node to which the path leads is replaced by x.
func Replace(n api.Node, path []int, x api.Node) (api.Node, api.Errno) {
	if len(path) == 0 {
		return wellFormed(x)
	}
	return change(n, path, 1, x)
}

// Insert returns the tree n with x as an additional kid, to which the insertion path leads.
func Insert(n api.Node, path []int, x api.Node) (api.Node, api.Errno) {
	return change(n, path, 0, x)
}

// Remove returns the tree n without the node to which the path leads.
func Remove(n api.Node, path []int) (api.Node, api.Errno) {
	return change(n, path, 1)
}

// change returns the tree n in which cut kids, from that to which the path leads on, are replaced by the trees of add.
func change(n api.Node, path []int, cut int, add ...api.Node) (api.Node, api.Errno) {
	if len(path) == 0 {
		return api.Node{}, api.ErrNone
	}
	last := len(path) - 1
	above, k := path[:last:last], path[last]
	parent, ok := follow(n, above)
	if !ok || k < 0 || k > len(parent.Kids)-cut {
		return api.Node{}, api.ErrNone
	}
	return wellFormed(put(n, above, withKids(parent, splice(parent.Kids, k, cut, add...))))
}

// withKids returns the node with other kids, and without its gaps if the number of its own tokens is not the same then.
func withKids(n api.Node, kids []api.Node) api.Node {
	own := grammar.Own(n)
	n.Kids = kids
	if grammar.Own(n) != own {
		n.Gaps = nil
	}
	return n
}

// put returns the tree n in which the node to which the path leads, which exists, is x.
func put(n api.Node, path []int, x api.Node) api.Node {
	if len(path) == 0 {
		return x
	}
	k := path[0]
	n.Kids = splice(n.Kids, k, 1, put(n.Kids[k], path[1:], x))
	return n
}

// splice returns the list in which cut nodes, from the index k on, are replaced by those of add. The capacity ends at k so that append writes to new memory: l keeps its elements, also those behind its end.
func splice(l []api.Node, k, cut int, add ...api.Node) []api.Node {
	return append(append(l[:k:k], add...), l[k+cut:]...)
}

// wellFormed returns the tree in new memory, or ErrKind if it is not well-formed. That covers a node whose kind does not fit its position: a tree with such a node is not well-formed either.
func wellFormed(n api.Node) (api.Node, api.Errno) {
	if grammar.Check(n) != api.OK {
		return api.Node{}, api.ErrKind
	}
	return inNewMemory(n), api.OK
}
