// Package octet is layer 1: numbers and byte strings as bytes that keep their order. See shared/doc/01-octet.md.
package octet

import (
	"bytes"

	"gablet/api"
)

const (
	lengthSize = 2
	mostBytes  = 1<<(8*lengthSize) - 1
)

// Put: bytes with a number behind them. (P1.1)
func Put(b []byte, n uint64, size int) []byte {
	if !maySize(size) {
		return withRoom(b, 0)
	}
	return putNumber(withRoom(b, size), n, size)
}

// Take: the number at a place, and the place behind it. (P1.1)
func Take(b []byte, at, size int) (n uint64, next int, e api.Errno) {
	if !maySize(size) || at < 0 || at > len(b) {
		return 0, 0, api.ErrArg
	}
	if len(b)-at < size {
		return 0, 0, api.ErrBytes
	}
	next = at + size
	for _, one := range b[at:next] {
		n = n<<8 | uint64(one)
	}
	return n, next, api.OK
}

// PutBytes: bytes with a byte string behind them. (P1.2)
func PutBytes(b, s []byte) ([]byte, api.Errno) {
	if len(s) > mostBytes {
		return nil, api.ErrMany
	}
	out := putNumber(withRoom(b, lengthSize+len(s)), uint64(len(s)), lengthSize)
	return append(out, s...), api.OK
}

// TakeBytes: the byte string at a place, and the place behind it. (P1.2)
func TakeBytes(b []byte, at int) (s []byte, next int, e api.Errno) {
	n, from, e := Take(b, at, lengthSize)
	if e != api.OK {
		return nil, 0, e
	}
	if len(b)-from < int(n) {
		return nil, 0, api.ErrBytes
	}
	next = from + int(n)
	return withRoom(b[from:next], 0), next, api.OK
}

// Order: of two byte strings. (P1.3)
func Order(a, b []byte) int {
	return bytes.Compare(a, b)
}

// After: the byte string next behind one. (P1.3)
func After(b []byte) []byte {
	return append(withRoom(b, 1), 0)
}

// maySize: may a number have so many bytes?
func maySize(size int) bool {
	sizes := map[int]bool{1: true, 2: true, 4: true, 8: true}
	return sizes[size]
}

// withRoom: bytes in new memory, with room for some more. The room behind b's own end is its owner's: nothing is put there.
func withRoom(b []byte, more int) []byte {
	return append(make([]byte, 0, len(b)+more), b...)
}

// putNumber: a number of a size that may be, put byte by byte behind b, in b's own room if it has some.
func putNumber(b []byte, n uint64, size int) []byte {
	for i := range size {
		b = append(b, byte(n>>(8*(size-1-i))))
	}
	return b
}
