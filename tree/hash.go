// Package tree: the Merkle tree over a list (RFC 6962): roots, proofs, and what a proof shows. Outside it hashes are texts; inside they are arrays, so that none can have another length.
package tree

import (
	"math/bits"

	"forks/api"
	"forks/sha"
)

type hash [api.HashLen]byte

// The byte ahead of what is hashed: no entry can pass for two halves.
const (
	leafMark = "\x00"
	nodeMark = "\x01"
)

func noEntry() hash { return sha.Sum("") }

func leaf(entry string) hash { return sha.Sum(leafMark + entry) }

func node(left, right hash) hash { return sha.Sum(nodeMark + left.text() + right.text()) }

// split tells how many of n entries (at least 2) are the first half: the greatest power of two below n.
func split(n int) int { return 1 << (bits.Len(uint(n-1)) - 1) }

func (h hash) text() string { return string(h[:]) }

// texts: of no hash nil, for that is what a proof of nothing is.
func texts(l []hash) []string {
	var out []string
	for _, h := range l {
		out = append(out, h.text())
	}
	return out
}

// read takes a text for a hash; false: it is none.
func read(s string) (hash, bool) {
	var h hash
	if len(s) != len(h) {
		return h, false
	}
	copy(h[:], s)
	return h, true
}

func readAll(l []string) ([]hash, bool) {
	out := make([]hash, len(l))
	for i, s := range l {
		h, ok := read(s)
		if !ok {
			return nil, false
		}
		out[i] = h
	}
	return out, true
}
