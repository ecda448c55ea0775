package scope

import "treemerge/api"

// finder searches the nodes around a node for the variable to which a name refers at this node. It returns its index, and true if there is one.
type finder func(name string) (int, bool)

// frame contains the variables that the nodes around a node, up to the nearest function, declare before it. It is kept while the nodes are visited, so that a search is a look into a map, however deep the tree is.
type frame struct {
	params map[string]int   // of each name the first parameter
	lets   map[string][]int // of each name the first KdLet of each block, those of inner blocks behind those of outer ones
	inBody bool             // whether the parameters are visible
}

// walker visits the nodes of a tree in preorder.
type walker struct {
	rows []api.Row
	step func(at int, find finder)
}

// visit calls step for each node of a tree, in preorder, with a finder that holds until step returns.
func visit(rows []api.Row, step func(at int, find finder)) {
	if len(rows) > 0 {
		w := walker{rows, step}
		w.visit(0, newFrame())
	}
}

// newFrame returns a frame without variables.
func newFrame() *frame {
	return &frame{params: map[string]int{}, lets: map[string][]int{}}
}

// visit visits the tree of a node; f is the frame at the node.
func (w walker) visit(at int, f *frame) {
	w.step(at, f.finder())
	switch w.rows[at].Kind {
	case api.KdFunc:
		w.visitFunc(at)
	case api.KdBlock:
		w.visitBlock(at, f)
	default:
		for _, kid := range w.rows[at].Kids {
			w.visit(kid, f)
		}
	}
}

// visitFunc visits the kids of a function, in a frame of their own: no variable from outside is visible there. The parameters are those of the lists before the kid.
func (w walker) visitFunc(at int) {
	f := newFrame()
	for _, kid := range w.rows[at].Kids {
		f.inBody = w.rows[kid].Kind == api.KdBlock
		w.visit(kid, f)
		if w.rows[kid].Kind == api.KdParams {
			w.addParams(kid, f)
		}
	}
}

// visitBlock visits the kids of a block. Each KdLet is visible from its end to the end of the block.
func (w walker) visitBlock(at int, f *frame) {
	for _, kid := range w.rows[at].Kids {
		w.visit(kid, f)
		if r := w.rows[kid]; r.Kind == api.KdLet && !w.isDeclaredIn(at, r.Text, f) {
			f.lets[r.Text] = append(f.lets[r.Text], kid)
		}
	}
	for _, kid := range w.rows[at].Kids {
		if name := w.rows[kid].Text; w.isDeclaredIn(at, name, f) {
			f.dropLet(name)
		}
	}
}

// isDeclaredIn reports whether the innermost KdLet of the name in the frame is one of this block.
func (w walker) isDeclaredIn(block int, name string, f *frame) bool {
	l := f.lets[name]
	return len(l) > 0 && w.rows[l[len(l)-1]].Parent == block
}

// addParams adds the parameters of a KdParams to the frame of its function.
func (w walker) addParams(at int, f *frame) {
	for _, kid := range w.rows[at].Kids {
		if r := w.rows[kid]; r.Kind == api.KdParam {
			if _, ok := f.params[r.Text]; !ok {
				f.params[r.Text] = kid
			}
		}
	}
}

// dropLet removes the innermost KdLet of a name.
func (f *frame) dropLet(name string) {
	l := f.lets[name]
	f.lets[name] = l[:len(l)-1]
}

// finder returns the finder of the frame.
func (f *frame) finder() finder {
	return func(name string) (at int, ok bool) {
		if l := f.lets[name]; len(l) > 0 {
			return l[len(l)-1], true
		}
		if f.inBody {
			at, ok = f.params[name]
		}
		return at, ok
	}
}
