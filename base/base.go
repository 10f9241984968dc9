// Package base: tables with rows, and what acts do to them.
package base

import (
	"iter"
	"maps"
	"slices"

	"forks/api"
)

// Base is tables by their names. Of what once stands in it nothing is written into: an act puts another table in a table's place. So a transaction that can't be done is dropped, and rows that are being told stay as they were.
type Base struct{ tables tables }

type tables map[string]table

// Do does the acts of a transaction as acts.Decode tells it, whose rows are kept; if one can't be done: an ActError, and nothing is done.
func (b *Base) Do(t api.Tx) error {
	next := make(tables)
	maps.Copy(next, b.tables)
	do := doers()
	for i, a := range t.Acts {
		if err := do[a.Kind](next, a); err != nil {
			return &api.ActError{Act: i, Err: err}
		}
	}
	b.tables = next
	return nil
}

// Rows tells a table's rows, as they stand now, till yield says no.
func (b *Base) Rows(name string) iter.Seq[[]api.Value] {
	rows := b.tables[name].rows
	return func(yield func(row []api.Value) bool) {
		for _, row := range rows {
			if !yield(slices.Clone(row)) {
				return
			}
		}
	}
}

// Tables tells the names, rising.
func (b *Base) Tables() []string { return slices.Sorted(maps.Keys(b.tables)) }
