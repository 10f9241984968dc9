// Package forks: trees, tables, a server, clients, auditors: see DOC.md.
package forks

import "forks/api"

// Server keeps a list of transactions, and signs what it is (P9).
type Server struct{}

// NewServer: with no entries.
func NewServer(sign api.Signer, key int) *Server { return &Server{} }

func (s *Server) Commit(tx string) (api.Digest, error) { return api.Digest{}, nil }

func (s *Server) Digest(n int) (api.Digest, error) { return api.Digest{}, nil }

func (s *Server) Entry(i, n int) (string, []string, error) { return "", nil, nil }

func (s *Server) Consistency(m, n int) ([]string, error) { return nil, nil }

func (s *Server) Size() int { return 0 }

func (s *Server) Rows(table string) func(yield func(row []api.Value) bool) {
	return func(yield func(row []api.Value) bool) {}
}

// Client accepts what a server signs (P10).
type Client struct{}

// NewClient: of a server's key.
func NewClient(check api.Checker, key int) *Client { return &Client{} }

func (c *Client) Accept(d api.Digest, proof []string) error { return nil }

func (c *Client) Stands(i int, entry string, proof []string) error { return nil }

func (c *Client) Accepted() (api.Digest, bool) { return api.Digest{}, false }

// Auditor keeps digests, and finds two stories (P11).
type Auditor struct{}

// NewAuditor: with an empty pool.
func NewAuditor(check api.Checker) *Auditor { return &Auditor{} }

func (a *Auditor) Store(d api.Digest) (string, error) { return "", nil }

func (a *Auditor) Reply(key, m, n int, proof []string) error { return nil }

func (a *Auditor) Linked(key, m, n int) bool { return false }

func (a *Auditor) Pool() []api.Digest { return nil }

// Judge tells whose two stories an evidence shows (P12).
func Judge(check api.Checker, evidence string) (int, error) { return 0, nil }
