package acts

import "forks/api"

// What stands for a kind of values: ahead of a value, and for a column.
const (
	number = 'n'
	text   = 't'
)

func isTx(t api.Tx) bool { return among(len(t.Acts), api.MaxActs) && all(t.Acts, isAct) }

func isAct(a api.Act) bool {
	if !isName(a.Table) {
		return false
	}
	switch a.Kind {
	case api.Create:
		return isKinds(a.Kinds) && len(a.Row) == 0
	case api.Insert, api.Update:
		return isRow(a.Row) && a.Kinds == ""
	case api.Delete:
		return isRow(a.Row) && len(a.Row) == 1 && a.Kinds == ""
	}
	return false
}

func isName(s string) bool { return among(len(s), api.MaxName) && all([]byte(s), isSmall) }

func isSmall(c byte) bool { return 'a' <= c && c <= 'z' }

func isKinds(s string) bool { return among(len(s), api.MaxColumns) && all([]byte(s), isKind) }

func isKind(c byte) bool { return c == number || c == text }

func isRow(row []api.Value) bool { return among(len(row), api.MaxColumns) && all(row, isValue) }

// isValue does not ask the value for its kind: anybody's type may call itself a number.
func isValue(v api.Value) bool {
	switch x := v.(type) {
	case api.Number:
		return true
	case api.Text:
		return len(x) <= api.MaxText
	}
	return false
}

func among(n, most int) bool { return 1 <= n && n <= most }

func all[T any](l []T, is func(v T) bool) bool {
	for _, v := range l {
		if !is(v) {
			return false
		}
	}
	return true
}
