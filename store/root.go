package store

import "bytes"

// sign: what a store's root begins with, so that another one's is not taken for it.
const sign = "store"

const (
	numberSize = 8
	rootSize   = 3 * numberSize
)

// root: what is held is the pairs of a tree, and all commits from a mark of the ring on.
type root struct {
	page int
	at   int
	seq  uint64
}

// body: of its block.
func (r root) body() []byte {
	b := []byte(sign)
	for _, n := range []uint64{uint64(r.page), uint64(r.at), r.seq} {
		for i := range numberSize {
			b = append(b, byte(n>>(8*i)))
		}
	}
	return b
}

// opened: the root whose body it is, or false, if it is none's. Whether its numbers may be those tell that it is asked of.
func opened(body []byte) (r root, is bool) {
	b, is := bytes.CutPrefix(body, []byte(sign))
	if !is || len(b) != rootSize {
		return root{}, false
	}
	return root{page: int(number(b)), at: int(number(b[numberSize:])), seq: number(b[2*numberSize:])}, true
}

// number: that with which bytes begin, the lowest first.
func number(b []byte) (n uint64) {
	for i := range numberSize {
		n |= uint64(b[i]) << (8 * i)
	}
	return n
}
