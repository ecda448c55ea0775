package project

import (
	"slices"

	"treemerge/api"
	"treemerge/tree"
)

// key is what Find looks for.
type key struct {
	kind  int
	owner string
	name  string
}

// Decls returns the declarations of all units that are not broken, unit by unit, each in preorder.
func Decls(u []api.Unit) []api.Decl {
	var l []api.Decl
	for i, x := range u {
		if !x.Broken {
			l = appendDecls(l, i, x.Tree)
		}
	}
	return l
}

// Find returns the first declaration with this kind, owner and name, and true; or a zero declaration and false if there is none.
func Find(u []api.Unit, kind int, owner, name string) (api.Decl, bool) {
	d, ok := firsts(Decls(u))[key{kind, owner, name}]
	return d, ok
}

// firsts returns the first declaration of each kind, owner and name. The list is visited from its end, so that of equal keys the first one is stored last.
func firsts(l []api.Decl) map[key]api.Decl {
	m := make(map[key]api.Decl, len(l))
	for _, d := range slices.Backward(l) {
		m[key{d.Kind, d.Owner, d.Name}] = d
	}
	return m
}

// appendDecls appends the declarations of the tree of a unit.
//
// A parent precedes its kids in the table, so that the name of the nearest function is known at the parent when a node is met.
func appendDecls(l []api.Decl, unit int, n api.Node) []api.Decl {
	rows := tree.Rows(n)
	functions := make([]string, len(rows)) // the name of the nearest function that the node is, or that is around it
	for i, r := range rows {
		var parent api.Row
		if r.Parent >= 0 {
			parent, functions[i] = rows[r.Parent], functions[r.Parent]
		}
		kind, owner := declared(r.Kind, parent, functions[i])
		if kind == 0 {
			continue
		}
		l = append(l, api.Decl{Kind: kind, Owner: owner, Name: r.Text, At: api.Ref{Unit: unit, Node: i}})
		if r.Kind == api.KdFunc {
			functions[i] = nameOf(kind, owner, r.Text)
		}
	}
	return l
}

// declared returns the kind and the owner of the declaration that a node of the kind is, given its parent and the name of the function around it; the kind 0 if it is none.
func declared(kind int, parent api.Row, function string) (int, string) {
	switch kind {
	case api.KdFunc:
		if parent.Kind == api.KdClass {
			return api.DcMethod, parent.Text
		}
		return api.DcFunc, ""
	case api.KdClass:
		return api.DcClass, ""
	case api.KdConst:
		return api.DcConst, ""
	case api.KdParam:
		return api.DcParam, function
	case api.KdLet:
		return api.DcLet, function
	}
	return 0, ""
}

// nameOf returns the name by which a function owns its parameters and variables.
func nameOf(kind int, class, function string) string {
	if kind == api.DcMethod {
		return class + "." + function
	}
	return function
}
