package forks

import (
	"forks/acts"
	"forks/api"
	"forks/base"
)

// Encode and Decode: transactions as bytes (P7).
func Encode(t api.Tx) (string, error) { return acts.Encode(t) }

func Decode(s string) (api.Tx, error) { return acts.Decode(s) }

// Base is tables with rows (P8).
type Base struct{ base base.Base }

// NewBase: no tables.
func NewBase() *Base { return &Base{} }

// Apply does a transaction, whole or not at all.
func (b *Base) Apply(tx string) error {
	t, err := acts.Decode(tx)
	if err != nil {
		return err
	}
	return b.base.Do(t)
}

// Rows tells a table's rows, till yield says no; Tables the tables' names.
func (b *Base) Rows(table string) func(yield func(row []api.Value) bool) { return b.base.Rows(table) }

func (b *Base) Tables() []string { return b.base.Tables() }
