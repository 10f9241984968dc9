package tree

import "forks/api"

// Included: ErrProof, unless a list of that size of which this is entry i with this proof would have that root; ErrArg: it can have no entry i.
func Included(size, i int, entry string, proof []string, root string) error {
	if i < 0 || i >= size {
		return api.ErrArg
	}
	want, ok := read(root)
	hashes, all := readAll(proof)
	if !ok || !all {
		return api.ErrProof
	}
	got, ok := rootWith(size, i, leaf(entry), hashes)
	if !ok || got != want {
		return api.ErrProof
	}
	return nil
}

// rootWith tells the root of a list of that size whose entry i has the hash h; false: the proof has a hash more or less than it needs.
func rootWith(size, i int, h hash, proof []hash) (hash, bool) {
	if size == 1 {
		return h, len(proof) == 0
	}
	if len(proof) == 0 {
		return hash{}, false
	}
	below, other := proof[:len(proof)-1], proof[len(proof)-1]
	k := split(size)
	if i < k {
		half, ok := rootWith(k, i, h, below)
		return node(half, other), ok
	}
	half, ok := rootWith(size-k, i-k, h, below)
	return node(other, half), ok
}

// Consistent: ErrProof, unless the proof shows that a list of n with root b had root a when it had m entries; ErrArg: m is below 0 or above n.
func Consistent(m, n int, a, b string, proof []string) error {
	if m < 0 || m > n {
		return api.ErrArg
	}
	old, okOld := read(a)
	now, okNow := read(b)
	hashes, all := readAll(proof)
	if !okOld || !okNow || !all || !consistent(m, n, old, now, hashes) {
		return api.ErrProof
	}
	return nil
}

func consistent(m, n int, old, now hash, proof []hash) bool {
	switch {
	case m == 0:
		return len(proof) == 0 && old == noEntry()
	case m == n:
		return len(proof) == 0 && old == now
	}
	first, whole, ok := rootsWith(m, n, old, true, proof)
	return ok && first == old && whole == now
}

// rootsWith tells the roots of the first m and of all n; known: the first m are the whole old list, whose root the proof leaves out; false: the proof has a hash more or less than it needs.
func rootsWith(m, n int, old hash, known bool, proof []hash) (first, whole hash, ok bool) {
	if m == n && known {
		return old, old, len(proof) == 0
	}
	if len(proof) == 0 {
		return hash{}, hash{}, false
	}
	below, other := proof[:len(proof)-1], proof[len(proof)-1]
	if m == n {
		return other, other, len(below) == 0
	}
	k := split(n)
	if m <= k {
		first, whole, ok = rootsWith(m, k, old, known, below)
		return first, node(whole, other), ok
	}
	first, whole, ok = rootsWith(m-k, n-k, old, false, below)
	return node(other, first), node(other, whole), ok
}
