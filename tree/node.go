package tree

import (
	"slices"

	"gablet/api"
	"gablet/block"
	"gablet/octet"
)

// nodeKind: the blocks of the journal and those of the roots have others, so that none of these is taken for a node.
const nodeKind = 3

// How many bytes each part of a node has in its block.
const (
	levelSize  = 2
	lengthSize = 2 // ahead of each byte string
	pageSize   = 4

	pairSize  = 2 * lengthSize        // of a pair, beside its own bytes
	childSize = lengthSize + pageSize // of a child, beside its key
	room      = block.Most - levelSize
)

const leastChildren = 2

// node of a root: a leaf, which has pairs, or an inner one, which has children.
type node struct {
	page    int // where it stands
	level   int // how many nodes lie below it, one below the other: of a leaf 0
	entries []entry
	to      []byte // the least key of what stands behind it; empty, if nothing does
}

// entry: a pair, which has a key and a value, or a child, which has the least key below it and a page.
type entry struct {
	key   []byte
	value []byte
	page  int
}

// nowhere: the node of None, a leaf that has nothing.
func nowhere() node { return node{page: None} }

// opened: the node that stands in a block, over so many pages; false, if there is none.
func opened(b []byte, pages int) (n node, is bool) {
	kind, body, e := block.Open(b)
	if e != api.OK || kind != nodeKind {
		return node{}, false
	}
	level, at, e := octet.Take(body, 0, levelSize)
	n.level = int(level)
	for e == api.OK && at < len(body) {
		var one entry
		one, at, e = taken(body, at, n.level)
		n.entries = append(n.entries, one)
	}
	if e != api.OK || !n.may(pages) {
		return node{}, false
	}
	return n, true
}

// taken: the entry at a place of a node's body, and the place behind it.
func taken(body []byte, at, level int) (one entry, next int, e api.Errno) {
	if one.key, next, e = octet.TakeBytes(body, at); e != api.OK {
		return entry{}, 0, e
	}
	if level == 0 {
		one.value, next, e = octet.TakeBytes(body, next)
		return one, next, e
	}
	page, next, e := octet.Take(body, next, pageSize)
	one.page = int(page)
	return one, next, e
}

// may: may it be a node over so many pages, as far as it alone can tell?
func (n node) may(pages int) bool {
	if len(n.entries) == 0 || n.lone() {
		return false
	}
	for i, one := range n.entries {
		if !mayKey(one.key) || !mayValue(one.value) || one.page >= pages {
			return false
		}
		if i > 0 && octet.Order(n.entries[i-1].key, one.key) >= 0 {
			return false
		}
	}
	return true
}

// body: what stands of it in its block.
func (n node) body() []byte {
	b := octet.Put(nil, uint64(n.level), levelSize)
	for _, one := range n.entries {
		// Neither a key nor a value is longer than a byte string may be.
		b, _ = octet.PutBytes(b, one.key)
		if n.level == 0 {
			b, _ = octet.PutBytes(b, one.value)
		} else {
			b = octet.Put(b, uint64(one.page), pageSize)
		}
	}
	return b
}

// size: how many bytes of the room it takes.
func (n node) size() int {
	sum := 0
	for _, one := range n.entries {
		sum += one.size(n.level)
	}
	return sum
}

// size: how many bytes it takes in a node of a level.
func (one entry) size(level int) int {
	if level == 0 {
		return pairSize + len(one.key) + len(one.value)
	}
	return childSize + len(one.key)
}

// pairs: those of a leaf; of an inner node none.
func (n node) pairs() []api.Pair {
	if n.level > 0 {
		return nil
	}
	l := make([]api.Pair, len(n.entries))
	for i, one := range n.entries {
		l[i] = api.Pair{Key: one.key, Value: one.value}
	}
	return l
}

// lone: is it an inner one of too few children?
func (n node) lone() bool {
	return n.level > 0 && len(n.entries) < leastChildren
}

// find: where a key stands among the entries, or would; and whether it does.
func (n node) find(key []byte) (i int, is bool) {
	return slices.BinarySearchFunc(n.entries, key, func(one entry, key []byte) int {
		return octet.Order(one.key, key)
	})
}

// way: the child where a key belongs. What is ahead of all belongs to the first one.
func (n node) way(key []byte) int {
	i, is := n.find(key)
	if !is {
		i--
	}
	return max(i, 0)
}

// meets: may the child i have keys of a span?
func (n node) meets(i int, s span) bool {
	end := n.end(i)
	return ahead(n.entries[i].key, s.to) && (len(end) == 0 || octet.Order(end, s.from) > 0)
}

// end: the least key of what stands behind the child i; empty, if nothing does.
func (n node) end(i int) []byte {
	if i+1 < len(n.entries) {
		return n.entries[i+1].key
	}
	return n.to
}

func (n node) least() []byte { return n.entries[0].key }

func (n node) greatest() []byte { return n.entries[len(n.entries)-1].key }

// filled: nodes of a level, each with as many of the entries as go into one, so that what two that stand one behind the other have never does.
func filled(level int, entries []entry) (l []node) {
	used := 0
	for _, one := range entries {
		size := one.size(level)
		if len(l) == 0 || used+size > room {
			l = append(l, node{level: level})
			used = 0
		}
		last := &l[len(l)-1]
		last.entries = append(last.entries, one)
		used += size
	}
	if k := len(l) - 1; k > 0 && l[k].lone() {
		shareOne(&l[k-1], &l[k])
	}
	return l
}

// shareOne: the last entry of a node becomes the first one of the node behind it.
func shareOne(n, behind *node) {
	k := len(n.entries) - 1
	behind.entries = slices.Concat(n.entries[k:], behind.entries)
	n.entries = n.entries[:k]
}

// halved: a node of a level, or two of about one size if the entries don't go into one; of none no node. What is over the room by no more than a third goes into two, for no entry takes more than a third of it.
func halved(level int, entries []entry) []node {
	whole := node{level: level, entries: entries}
	size := whole.size()
	if size == 0 {
		return nil
	}
	if size <= room {
		return []node{whole}
	}
	k, sum := 0, 0
	for sum < size/2 {
		sum += entries[k].size(level)
		k++
	}
	return []node{{level: level, entries: entries[:k]}, {level: level, entries: entries[k:]}}
}
