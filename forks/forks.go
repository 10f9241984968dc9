// Package forks: trees, tables, a server, clients, auditors: see DOC.md.
package forks

import "forks/api"

// Auditor keeps digests, and finds two stories (P11).
type Auditor struct{}

// NewAuditor: with an empty pool.
func NewAuditor(check api.Checker) *Auditor { return &Auditor{} }

func (a *Auditor) Store(d api.Digest) (string, error) { return "", nil }

func (a *Auditor) Reply(key, m, n int, proof []string) error { return nil }

func (a *Auditor) Linked(key, m, n int) bool { return false }

func (a *Auditor) Pool() []api.Digest { return nil }

// Judge tells whose two stories an evidence shows (P12).
func Judge(check api.Checker, evidence string) (int, error) { return 0, nil }
