package forks

import (
	"maps"
	"slices"

	"forks/api"
	"forks/digest"
	"forks/tree"
)

// Auditor keeps digests, and finds two stories (P11). Neither the pool nor the links that it has are written into: so a copy of it goes its own way.
type Auditor struct {
	checker api.Checker
	pool    []api.Digest
	linked  map[link]struct{}
}

// link: of a key, the digests of sizes m and n.
type link struct{ key, m, n int }

// NewAuditor: with an empty pool.
func NewAuditor(check api.Checker) *Auditor { return &Auditor{checker: check} }

// Store keeps a digest. If its key has signed another root for that size, there are two stories: the evidence has both.
func (a *Auditor) Store(d api.Digest) (string, error) {
	if !digest.Good(a.checker, d) {
		return "", api.ErrSign
	}
	kept, there := a.kept(d.Key, d.Size)
	switch {
	case there && kept.Root != d.Root:
		return digest.Evidence(kept, d), api.ErrFork
	case there:
		return "", nil
	case len(a.pool) >= api.MaxPool:
		return "", api.ErrFull
	}
	a.pool = append(slices.Clip(a.pool), d)
	return "", nil
}

// kept finds the one digest of that key and size.
func (a *Auditor) kept(key, size int) (api.Digest, bool) {
	for _, d := range a.pool {
		if d.Key == key && d.Size == size {
			return d, true
		}
	}
	return api.Digest{}, false
}

// Reply links two digests that are kept, by the proof that the first m were the list once.
func (a *Auditor) Reply(key, m, n int, proof []string) error {
	old, oldThere := a.kept(key, m)
	now, nowThere := a.kept(key, n)
	if !oldThere || !nowThere || m >= n {
		return api.ErrNone
	}
	if err := tree.Consistent(m, n, old.Root, now.Root, proof); err != nil {
		return err
	}
	a.addLink(link{key, m, n})
	return nil
}

func (a *Auditor) addLink(l link) {
	linked := make(map[link]struct{})
	maps.Copy(linked, a.linked)
	linked[l] = struct{}{}
	a.linked = linked
}

// Linked: a reply has shown that the first m of the first n were the list once.
func (a *Auditor) Linked(key, m, n int) bool {
	_, there := a.linked[link{key, m, n}]
	return there
}

// Pool tells what is kept, in its order.
func (a *Auditor) Pool() []api.Digest { return slices.Clone(a.pool) }

// Judge tells whose two stories an evidence shows (P12). It needs nothing but the evidence and somebody who looks after signatures: so anybody can judge.
func Judge(check api.Checker, evidence string) (int, error) {
	l, err := digest.Stories(evidence)
	if err != nil {
		return 0, err
	}
	a, b := l[0], l[1]
	switch {
	case !digest.Good(check, a) || !digest.Good(check, b):
		return 0, api.ErrSign
	case a.Key != b.Key || a.Size != b.Size || a.Root == b.Root:
		return 0, api.ErrProof
	}
	return a.Key, nil
}
