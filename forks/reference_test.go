package forks

import (
	"crypto/sha256"
	"math/bits"
	"strconv"
	"strings"
)

// What the trees are held against: roots and proofs as RFC 6962 (2.1) writes them down, and the walks of RFC 9162 (2.1.3.2 and 2.1.4.2), which go up from the entry where the program goes down from the root.

func refHash(s string) string {
	h := sha256.Sum256([]byte(s))
	return string(h[:])
}

func refNode(a, b string) string { return refHash("\x01" + a + b) }

func refSplit(n int) int {
	k := 1
	for k < n-k {
		k *= 2
	}
	return k
}

func refRoot(l []string) string {
	switch len(l) {
	case 0:
		return refHash("")
	case 1:
		return refHash("\x00" + l[0])
	}
	k := refSplit(len(l))
	return refNode(refRoot(l[:k]), refRoot(l[k:]))
}

func refPath(i int, l []string) []string {
	if len(l) == 1 {
		return nil
	}
	k := refSplit(len(l))
	if i < k {
		return append(refPath(i, l[:k]), refRoot(l[k:]))
	}
	return append(refPath(i-k, l[k:]), refRoot(l[:k]))
}

func refSubproof(m int, l []string, whole bool) []string {
	n := len(l)
	if m == n && whole {
		return nil
	}
	if m == n {
		return []string{refRoot(l)}
	}
	k := refSplit(n)
	if m <= k {
		return append(refSubproof(m, l[:k], whole), refRoot(l[k:]))
	}
	return append(refSubproof(m-k, l[k:], false), refRoot(l[:k]))
}

// refClimb tells the root that a proof comes to; false: it has a hash more or less.
func refClimb(size, i int, entry string, proof []string) (string, bool) {
	fn, sn := i, size-1
	r := refHash("\x00" + entry)
	for _, p := range proof {
		if sn == 0 {
			return "", false
		}
		if fn&1 == 1 || fn == sn {
			r = refNode(p, r)
			for fn&1 == 0 && fn != 0 {
				fn, sn = fn>>1, sn>>1
			}
		} else {
			r = refNode(r, p)
		}
		fn, sn = fn>>1, sn>>1
	}
	return r, sn == 0
}

// refBoth tells the roots of the first m (0 < m < n) and of all n that a proof comes to; false: it has a hash more or less.
func refBoth(m, n int, a string, proof []string) (first, all string, ok bool) {
	path := proof
	if bits.OnesCount(uint(m)) == 1 {
		path = append([]string{a}, proof...)
	}
	if len(proof) == 0 {
		return "", "", false
	}
	fn, sn := m-1, n-1
	for fn&1 == 1 {
		fn, sn = fn>>1, sn>>1
	}
	first, all = path[0], path[0]
	for _, c := range path[1:] {
		if sn == 0 {
			return "", "", false
		}
		if fn&1 == 1 || fn == sn {
			first, all = refNode(c, first), refNode(c, all)
			for fn&1 == 0 && fn != 0 {
				fn, sn = fn>>1, sn>>1
			}
		} else {
			all = refNode(all, c)
		}
		fn, sn = fn>>1, sn>>1
	}
	return first, all, sn == 0
}

// entriesOf: n entries, all different, of many lengths, the first of them empty.
func entriesOf(n int) []string {
	l := make([]string, n)
	for i := range l {
		l[i] = strings.Repeat(strconv.Itoa(i), i%70)
	}
	return l
}

// hashesOf: n hashes, all different.
func hashesOf(n int) []string {
	l := make([]string, n)
	for i := range l {
		l[i] = refHash("other" + strconv.Itoa(i))
	}
	return l
}
