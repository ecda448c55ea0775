package classes

import (
	"treemerge/api"
	"treemerge/scope"
)

// key is what a declaration and the one that it repeats have in common. The owner of a class is empty.
type key struct {
	kind  int
	owner string
	name  string
}

// repeated returns the node of the first class or method that repeats an earlier one, and true if there is one.
func repeated(decls []api.Decl) (api.Ref, bool) {
	seen := make(map[key]bool)
	for _, d := range decls {
		if d.Kind != api.DcClass && d.Kind != api.DcMethod {
			continue
		}
		k := key{d.Kind, d.Owner, d.Name}
		if seen[k] {
			return d.At, true
		}
		seen[k] = true
	}
	return api.Ref{}, false
}

// unbound returns, of the first class whose base name is not empty and no declared class, the node of the KdBase, and true if there is one.
func unbound(u []api.Unit, decls []api.Decl) (api.Ref, bool) {
	isUnbound := make(map[api.Ref]bool)
	for _, at := range scope.Unbound(u) {
		isUnbound[at] = true
	}
	nodes := baseNodes(u)
	for _, d := range decls {
		if x, ok := nodes[d.At]; ok && isUnbound[x.at] {
			return x.at, true
		}
	}
	return api.Ref{}, false
}

// circular returns the node of the first class whose chain of base names comes back to it, and true if there is one.
func circular(u []api.Unit, decls []api.Decl) (api.Ref, bool) {
	inCircle := basesOf(u, decls).circles()
	for _, d := range decls {
		if d.Kind == api.DcClass && inCircle[d.Name] {
			return d.At, true
		}
	}
	return api.Ref{}, false
}
