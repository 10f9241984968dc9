package forks

import (
	"forks/api"
	"forks/digest"
	"forks/tree"
)

// Client accepts what a server signs, as long as it goes on from what was accepted (P10).
type Client struct {
	checker api.Checker
	key     int
	last    api.Digest
	any     bool // last is one that was accepted
}

// NewClient: of a server's key; nothing is accepted yet.
func NewClient(check api.Checker, key int) *Client { return &Client{checker: check, key: key} }

// Accept takes a digest, with the proof that what was accepted last was the list once.
func (c *Client) Accept(d api.Digest, proof []string) error {
	if d.Key != c.key || !digest.Good(c.checker, d) {
		return api.ErrSign
	}
	if err := c.goesOn(d, proof); err != nil {
		return err
	}
	c.last, c.any = d, true
	return nil
}

func (c *Client) goesOn(d api.Digest, proof []string) error {
	switch {
	case !c.any && len(proof) > 0:
		return api.ErrProof
	case !c.any:
		return nil
	case d.Size < c.last.Size:
		return api.ErrOld
	case d.Size == c.last.Size && d.Root != c.last.Root:
		return api.ErrFork
	}
	return tree.Consistent(c.last.Size, d.Size, c.last.Root, d.Root, proof)
}

// Stands: nil, if the proof shows that this is entry i of the list that was accepted last.
func (c *Client) Stands(i int, entry string, proof []string) error {
	if !c.any {
		return api.ErrNone
	}
	return tree.Included(c.last.Size, i, entry, proof, c.last.Root)
}

// Accepted tells what was accepted last; false: nothing was.
func (c *Client) Accepted() (api.Digest, bool) { return c.last, c.any }
