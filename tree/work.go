package tree

import (
	"slices"

	"gablet/api"
	"gablet/block"
)

// edit: what is done to a leaf: the pairs that it has then, or false, if nothing is done.
type edit func(leaf node) (l []entry, is bool)

// work: what one call does to the pages. Nothing is written until all pages are taken, and nothing dropped until all is written, so that an error turns nothing.
type work struct {
	t      *Tree
	top    node     // of the root that is handed in
	taken  []int    // pages to write to
	blocks [][]byte // what is to stand there
	spared []int    // pages that are taken, but not to be written to
	left   []int    // the pages of nodes for which others stand now
}

// group: the nodes that stand for the children of another one from first on, ahead of behind.
type group struct {
	nodes         []node
	first, behind int
}

// redo: the nodes, two at most, that stand for n, when what is to be done is done to the leaf below it where a key belongs. What is below them has its pages already.
func (w *work) redo(n node, key []byte, do edit) (l []node, is bool, e api.Errno) {
	w.leave(n)
	if n.level == 0 {
		entries, is := do(n)
		return halved(n.level, entries), is, api.OK
	}
	i := n.way(key)
	c, e := w.t.child(n, i)
	if e != api.OK {
		return nil, false, e
	}
	l, is, e = w.redo(c, key, do)
	if e != api.OK || !is {
		return nil, false, e
	}
	g := group{l, i, i + 1}
	if dwindled(l, c) {
		if g, e = w.join(n, g); e != api.OK {
			return nil, false, e
		}
	}
	children, e := w.place(g.nodes)
	if e != api.OK {
		return nil, false, e
	}
	return halved(n.level, slices.Concat(n.entries[:g.first], children, n.entries[g.behind:])), true, api.OK
}

// dwindled: has what stands for a node become less, or too little to stand alone? One child that is left may take more bytes than two did, if its key has become longer.
func dwindled(l []node, was node) bool {
	return len(l) == 1 && (l[0].lone() || l[0].size() < was.size())
}

// join: a group of one child of n, or with a neighbour of it, if both go into one node; one that can't stand alone shares with the first neighbour that there is.
func (w *work) join(n node, g group) (group, api.Errno) {
	own := g.nodes[0]
	for _, j := range []int{g.first - 1, g.behind} {
		if j < 0 || j >= len(n.entries) {
			continue
		}
		c, e := w.t.child(n, j)
		if e != api.OK {
			return group{}, e
		}
		if own.lone() || own.size()+c.size() <= room {
			w.leave(c)
			return g.with(c, j), api.OK
		}
	}
	return g, api.OK
}

// with: a group of one child, with what the one next to it has: in one node, if that goes, else in two.
func (g group) with(c node, j int) group {
	own, more := g.nodes[0].entries, c.entries
	if j < g.first {
		return group{halved(c.level, slices.Concat(more, own)), j, g.behind}
	}
	return group{halved(c.level, slices.Concat(own, more)), g.first, j + 1}
}

// rise: the root of nodes that stand one behind the other.
func (w *work) rise(l []node) (int, api.Errno) {
	for len(l) > 1 {
		children, e := w.place(l)
		if e != api.OK {
			return 0, e
		}
		l = filled(l[0].level+1, children)
	}
	if len(l) == 0 {
		return None, api.OK
	}
	if l[0].lone() {
		return l[0].entries[0].page, api.OK
	}
	top, e := w.place(l)
	if e != api.OK {
		return 0, e
	}
	return top[0].page, api.OK
}

// place: pages for nodes, as children of another one.
func (w *work) place(l []node) (children []entry, e api.Errno) {
	for _, n := range l {
		b, e := block.Seal(nodeKind, n.body())
		if e != api.OK {
			return nil, e
		}
		k, e := w.take()
		if e != api.OK {
			return nil, e
		}
		w.taken, w.blocks = append(w.taken, k), append(w.blocks, b)
		children = append(children, entry{key: n.least(), page: k})
	}
	return children, api.OK
}

// take: a page that the root has not. It may have free ones: those that were dropped while they were fresh, and hold their nodes still.
func (w *work) take() (int, api.Errno) {
	for {
		k, e := w.t.p.Take()
		if e != api.OK {
			return 0, e
		}
		if !w.t.has(w.top, k) {
			return k, api.OK
		}
		w.spared = append(w.spared, k)
	}
}

// leave: a node is not wanted any more, if all goes well.
func (w *work) leave(n node) {
	if n.page != None {
		w.left = append(w.left, n.page)
	}
}

// end: the root, when all is written and what was left is dropped; or the first error, with all dropped that was taken.
func (w *work) end(root int, e api.Errno) (int, api.Errno) {
	if e == api.OK {
		e = w.write()
	}
	w.drop(w.spared)
	if e != api.OK {
		w.drop(w.taken)
		return 0, e
	}
	w.drop(w.left)
	return root, api.OK
}

func (w *work) write() api.Errno {
	for i, k := range w.taken {
		if e := w.t.d.Write(w.t.from+k, w.blocks[i]); e != api.OK {
			return e
		}
	}
	return api.OK
}

// drop: a page that is dropped already, for another root that had it, stays so.
func (w *work) drop(l []int) {
	for _, k := range l {
		w.t.p.Drop(k)
	}
}
