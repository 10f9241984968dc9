package base

import (
	"cmp"
	"slices"

	"forks/api"
)

// table: the kinds of its columns, and its rows by rising keys.
type table struct {
	kinds string
	rows  [][]api.Value
}

// find tells where the row with a key stands; false: where it would.
func (t table) find(key api.Value) (int, bool) {
	return slices.BinarySearchFunc(t.rows, key, func(row []api.Value, key api.Value) int { return compare(row[0], key) })
}

// with tells the table with these rows for those between from and to; t stays as it is.
func (t table) with(from, to int, rows ...[]api.Value) table {
	return table{kinds: t.kinds, rows: slices.Concat(t.rows[:from], rows, t.rows[to:])}
}

// compare: both are of one kind, as a column's are.
func compare(a, b api.Value) int {
	switch x := a.(type) {
	case api.Number:
		if y, ok := b.(api.Number); ok {
			return cmp.Compare(x, y)
		}
	case api.Text:
		if y, ok := b.(api.Text); ok {
			return cmp.Compare(x, y)
		}
	}
	return 0
}

func kindsOf(row []api.Value) string {
	var kinds []byte
	for _, v := range row {
		kinds = append(kinds, v.Kind())
	}
	return string(kinds)
}
