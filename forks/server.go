package forks

import (
	"maps"
	"slices"

	"forks/acts"
	"forks/api"
	"forks/base"
	"forks/digest"
	"forks/tree"
)

// Server keeps a list of transactions, and signs what it is (P9). Neither the entries nor the digests that it has are written into: so it can be put back as it was, and a copy of it goes its own way.
type Server struct {
	signer  api.Signer
	key     int
	entries []string
	base    base.Base
	signed  map[int]api.Digest // by size
}

// NewServer: with no entries.
func NewServer(sign api.Signer, key int) *Server { return &Server{signer: sign, key: key} }

// Commit makes a transaction the last entry, and tells the digest of all.
func (s *Server) Commit(tx string) (api.Digest, error) {
	was := *s
	if err := s.add(tx); err != nil {
		return api.Digest{}, err
	}
	d, err := s.Digest(len(s.entries))
	if err != nil {
		*s = was
	}
	return d, err
}

func (s *Server) add(tx string) error {
	t, err := acts.Decode(tx)
	if err != nil {
		return err
	}
	if len(s.entries) >= api.MaxEntries {
		return api.ErrFull
	}
	if err := s.base.Do(t); err != nil {
		return err
	}
	s.entries = append(slices.Clip(s.entries), tx)
	return nil
}

// Digest tells that of the first n. It is signed but once: whoever asks again gets the same signature.
func (s *Server) Digest(n int) (api.Digest, error) {
	if n < 0 || n > len(s.entries) {
		return api.Digest{}, api.ErrArg
	}
	if d, there := s.signed[n]; there {
		return d, nil
	}
	d, err := digest.Sign(s.signer, s.key, n, tree.Root(s.entries[:n], 1))
	if err == nil {
		s.keep(d)
	}
	return d, err
}

func (s *Server) keep(d api.Digest) {
	signed := make(map[int]api.Digest)
	maps.Copy(signed, s.signed)
	signed[d.Size] = d
	s.signed = signed
}

// Entry tells entry i, and its proof among the first n.
func (s *Server) Entry(i, n int) (string, []string, error) {
	if i < 0 || i >= n || n > len(s.entries) {
		return "", nil, api.ErrArg
	}
	proof, err := tree.Inclusion(s.entries[:n], i)
	return s.entries[i], proof, err
}

// Consistency tells the proof that the first m of the first n were the list once; of none there is nothing to prove.
func (s *Server) Consistency(m, n int) ([]string, error) {
	if m < 0 || m > n || n > len(s.entries) {
		return nil, api.ErrArg
	}
	if m == 0 {
		return nil, nil
	}
	return tree.Consistency(s.entries[:n], m)
}

// Size tells how many entries there are; Rows a table's rows, as they stand now, till yield says no.
func (s *Server) Size() int { return len(s.entries) }

func (s *Server) Rows(table string) func(yield func(row []api.Value) bool) { return s.base.Rows(table) }
