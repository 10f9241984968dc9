package forks

import (
	"errors"
	"fmt"
	"math"
	"math/rand"
	"reflect"
	"slices"
	"sort"
	"strconv"
	"strings"
	"testing"

	"forks/api"
)

// refBase is P8 written out anew: rows as they came, by their keys told apart as texts, all of it copied for each transaction.
type refBase map[string]*refTable

type refTable struct {
	kinds string
	rows  map[string][]api.Value
}

func (b refBase) copied() refBase {
	c := refBase{}
	for name, t := range b {
		rows := map[string][]api.Value{}
		for k, row := range t.rows {
			rows[k] = row
		}
		c[name] = &refTable{t.kinds, rows}
	}
	return c
}

func refKey(v api.Value) string { return fmt.Sprintf("%T %v", v, v) }

func (b refBase) act(a api.Act) api.Errno {
	t := b[a.Table]
	if a.Kind == api.Create {
		if t != nil || len(b) == 4 {
			return api.ErrTable
		}
		b[a.Table] = &refTable{a.Kinds, map[string][]api.Value{}}
		return api.OK
	}
	if t == nil {
		return api.ErrTable
	}
	if a.Kind != api.Delete && len(a.Row) != len(t.kinds) {
		return api.ErrRow
	}
	for i, v := range a.Row {
		if _, isText := v.(api.Text); isText != (t.kinds[i] == 't') {
			return api.ErrRow
		}
	}
	key := refKey(a.Row[0])
	_, there := t.rows[key]
	switch {
	case there == (a.Kind == api.Insert):
		return api.ErrKey
	case a.Kind == api.Insert && len(t.rows) == 16:
		return api.ErrFull
	case a.Kind == api.Delete:
		delete(t.rows, key)
	default:
		t.rows[key] = a.Row
	}
	return api.OK
}

// apply tells the base afterwards, the act that can't be done and why.
func (b refBase) apply(acts []api.Act) (refBase, int, api.Errno) {
	next := b.copied()
	for i, a := range acts {
		if e := next.act(a); e != api.OK {
			return b, i, e
		}
	}
	return next, 0, api.OK
}

func (b refBase) tables() []string {
	var l []string
	for name := range b {
		l = append(l, name)
	}
	sort.Strings(l)
	return l
}

func (b refBase) rows(name string) [][]api.Value {
	var l [][]api.Value
	if b[name] == nil {
		return nil
	}
	for _, row := range b[name].rows {
		l = append(l, row)
	}
	sort.Slice(l, func(i, j int) bool {
		if x, ok := l[i][0].(api.Number); ok {
			return x < l[j][0].(api.Number)
		}
		return string(l[i][0].(api.Text)) < string(l[j][0].(api.Text))
	})
	return l
}

// wrongAct tells whether an error is not just that of this act.
func wrongAct(err error, act int, want api.Errno) bool {
	var a *api.ActError
	if !errors.As(err, &a) || a.Act != act || err.Error() == "" {
		return true
	}
	for e := api.OK; e <= api.ErrNone; e++ {
		if errors.Is(err, e) != (e == want) {
			return true
		}
	}
	return false
}

// tables: a base, or a server with one.
type tables interface {
	Rows(table string) func(yield func(row []api.Value) bool)
}

func rowsOf(b tables, table string) [][]api.Value {
	var l [][]api.Value
	for row := range b.Rows(table) {
		l = append(l, row)
	}
	return l
}

// told: all that a base tells.
func told(b *Base) string {
	s := ""
	for _, name := range b.Tables() {
		s += fmt.Sprintf("%s %#v;", name, rowsOf(b, name))
	}
	return s
}

func apply(t *testing.T, b *Base, acts ...api.Act) {
	t.Helper()
	if err := b.Apply(coded(t, acts...)); err != nil {
		t.Fatalf("%v: %v", acts, err)
	}
}

// refuse: the base must not do these, and stay as it is.
func refuse(t *testing.T, b *Base, act int, want api.Errno, acts ...api.Act) {
	t.Helper()
	before := told(b)
	if err := b.Apply(coded(t, acts...)); wrongAct(err, act, want) {
		t.Errorf("%v: %v, want %v of act %d", acts, err, want, act)
	}
	if after := told(b); after != before {
		t.Errorf("%v: %s, and was %s", acts, after, before)
	}
}

func row(l ...any) []api.Value { return rowAct(api.Insert, "", l...).Row }

func expect(t *testing.T, b tables, table string, want ...[]api.Value) {
	t.Helper()
	if got := rowsOf(b, table); !reflect.DeepEqual(got, want) {
		t.Errorf("%s: %v, want %v", table, got, want)
	}
}

// filled: t of numbers with 16 rows: 0, 10 .. 150.
func filled(t *testing.T) *Base {
	t.Helper()
	b := NewBase()
	apply(t, b, create("t", "n"))
	for k := range 16 {
		apply(t, b, insert("t", 10*(5*k%16)))
	}
	return b
}

// P8

func TestNewBaseIsEmpty(t *testing.T) {
	b := NewBase()
	if len(b.Tables()) != 0 || rowsOf(b, "t") != nil || rowsOf(b, "") != nil {
		t.Error(told(b))
	}
	if err := b.Apply(unhex("01 04 01 74 01 6e 00 00 00 00 00 00 00 05")); wrongAct(err, 0, api.ErrTable) {
		t.Error(err)
	}
}

func TestApplyOfNoTransaction(t *testing.T) {
	b := filled(t)
	before := told(b)
	s := coded(t, create("u", "n"), insert("u", 1))
	for _, bad := range []string{"", "\x00", "t", s + "\x00", s[:len(s)-1], s[1:], "\x03" + s[1:], "\x01" + s[1:], strings.Repeat("\xff", 300)} {
		if err := b.Apply(bad); wrong(err, api.ErrForm) {
			t.Errorf("%x: %v", bad, err)
		}
	}
	if told(b) != before {
		t.Error(told(b))
	}
}

func TestCreate(t *testing.T) {
	b := NewBase()
	apply(t, b, create("d", "n"), create("abcdefgh", "nttn"))
	refuse(t, b, 0, api.ErrTable, create("d", "n"))
	refuse(t, b, 0, api.ErrTable, create("d", "tt"))
	refuse(t, b, 3, api.ErrTable, create("x", "n"), insert("x", 1), create("y", "n"), create("z", "n"))
	refuse(t, b, 1, api.ErrTable, create("x", "n"), create("x", "n"))
	apply(t, b, create("a", "t"), create("c", "t"))
	refuse(t, b, 0, api.ErrTable, create("e", "n"))
	refuse(t, b, 0, api.ErrTable, create("a", "n"))
	if got := b.Tables(); !slices.Equal(got, []string{"a", "abcdefgh", "c", "d"}) {
		t.Error(got)
	}
	expect(t, b, "a")
}

func TestNoSuchTable(t *testing.T) {
	b := filled(t)
	for _, a := range []api.Act{insert("u", 1), update("u", 1), remove("u", 1), insert("tt", 1), insert("a", "x", "y")} {
		refuse(t, b, 0, api.ErrTable, a)
		refuse(t, b, 1, api.ErrTable, update("t", 0), a)
	}
}

func TestRowsOfAnotherKind(t *testing.T) {
	b := NewBase()
	apply(t, b, create("t", "nt"), insert("t", 1, "a"), insert("t", 2, ""))
	for _, kind := range []int{api.Insert, api.Update} {
		for _, l := range [][]any{{1}, {9}, {"a"}, {1, 1}, {9, 9}, {"a", "a"}, {"a", 1}, {1, "a", 1}, {9, "a", "a"}, {1, "a", 1, 1}} {
			refuse(t, b, 0, api.ErrRow, rowAct(kind, "t", l...))
		}
	}
	refuse(t, b, 0, api.ErrRow, remove("t", "a"))
	refuse(t, b, 0, api.ErrRow, remove("t", ""))
	apply(t, b, remove("t", 1))
	expect(t, b, "t", row(2, ""))
	apply(t, b, create("u", "tnnt"), insert("u", "", 1, 2, ""), insert("u", "k", 1, 2, "v"))
	refuse(t, b, 0, api.ErrRow, update("u", "k", 1, 2, 3))
	refuse(t, b, 0, api.ErrRow, update("u", "k", 1, "2", "3"))
	refuse(t, b, 0, api.ErrRow, remove("u", 0))
	apply(t, b, remove("u", ""))
	expect(t, b, "u", row("k", 1, 2, "v"))
}

func TestKeys(t *testing.T) {
	b := NewBase()
	apply(t, b, create("t", "nt"), insert("t", 2, "b"), insert("t", 1, "a"))
	refuse(t, b, 0, api.ErrKey, insert("t", 2, "b"))
	refuse(t, b, 0, api.ErrKey, insert("t", 1, "other"))
	refuse(t, b, 0, api.ErrKey, update("t", 3, "a"))
	refuse(t, b, 0, api.ErrKey, remove("t", 0))
	apply(t, b, update("t", 1, "c"), insert("t", 0, ""), update("t", 0, "z"))
	expect(t, b, "t", row(0, "z"), row(1, "c"), row(2, "b"))
	apply(t, b, remove("t", 1))
	expect(t, b, "t", row(0, "z"), row(2, "b"))
	refuse(t, b, 0, api.ErrKey, remove("t", 1))
	refuse(t, b, 0, api.ErrKey, update("t", 1, ""))
	apply(t, b, insert("t", 1, "again"), remove("t", 0), remove("t", 2))
	expect(t, b, "t", row(1, "again"))
	apply(t, b, remove("t", 1))
	expect(t, b, "t")
	if got := b.Tables(); !slices.Equal(got, []string{"t"}) {
		t.Errorf("a table goes with its last row: %v", got)
	}
}

func TestFull(t *testing.T) {
	b := filled(t)
	refuse(t, b, 0, api.ErrFull, insert("t", 5))
	refuse(t, b, 0, api.ErrFull, insert("t", -5))
	refuse(t, b, 0, api.ErrKey, insert("t", 150))
	refuse(t, b, 0, api.ErrRow, insert("t", "x"))
	refuse(t, b, 2, api.ErrFull, remove("t", 0), insert("t", 1), insert("t", 2))
	apply(t, b, update("t", 150), remove("t", 0), insert("t", 1))
	if got := rowsOf(b, "t"); len(got) != 16 || got[0][0] != api.Number(1) {
		t.Error(got)
	}
	apply(t, b, create("u", "n"), insert("u", 1))
	refuse(t, b, 0, api.ErrFull, insert("t", 5))
}

func TestOrder(t *testing.T) {
	numbers := []int{math.MinInt, math.MinInt + 1, -1 << 40, -256, -255, -1, 0, 1, 2, 9, 10, 255, 256, 1 << 40, math.MaxInt - 1, math.MaxInt}
	texts := []string{"", "\x00", "\x00\x00", " ", "10", "9", "A", "Z", "a", "a\x00", "aa", "ab", "b", "é", "\xff", "\xff\xff"}
	chance := rand.New(rand.NewSource(3))
	for range 20 {
		b := NewBase()
		apply(t, b, create("n", "n"), create("t", "t"))
		for _, i := range chance.Perm(16) {
			apply(t, b, insert("n", numbers[i]), insert("t", texts[i]))
		}
		var rising, byBytes [][]api.Value
		for i := range 16 {
			rising, byBytes = append(rising, row(numbers[i])), append(byBytes, row(texts[i]))
		}
		expect(t, b, "n", rising...)
		expect(t, b, "t", byBytes...)
	}
}

func TestActsOneBehindTheOther(t *testing.T) {
	b := NewBase()
	apply(t, b, create("t", "nn"), insert("t", 1, 1), update("t", 1, 2), insert("t", 0, 0), remove("t", 1), insert("t", 1, 3))
	expect(t, b, "t", row(0, 0), row(1, 3))
	refuse(t, b, 1, api.ErrTable, insert("t", 5, 5), insert("u", 1), create("u", "n"))
	refuse(t, b, 1, api.ErrKey, remove("t", 1), update("t", 1, 1))
	refuse(t, b, 5, api.ErrKey, remove("t", 0), insert("t", 0, 9), update("t", 1, 9), create("u", "n"), insert("u", 7), insert("u", 7))
	refuse(t, NewBase(), 2, api.ErrKey, create("t", "n"), insert("t", 7), insert("t", 7))
}

func TestTheErrorThatIsNamedFirst(t *testing.T) {
	b := filled(t)
	refuse(t, b, 0, api.ErrRow, insert("t", 0, 0))
	refuse(t, b, 0, api.ErrRow, update("t", 5, 5))
	refuse(t, b, 0, api.ErrKey, insert("t", 0))
	refuse(t, b, 0, api.ErrFull, insert("t", 5), insert("x", 5))
}

// someRow: mostly a row of these kinds.
func someRow(chance *rand.Rand, kinds string) []any {
	if chance.Intn(12) == 0 {
		kinds = []string{"n", "t", "nn", "tn", "nnn"}[chance.Intn(5)]
	}
	var l []any
	for _, k := range kinds {
		n := chance.Intn(40) - 7
		if k == 'n' {
			l = append(l, n)
		} else {
			l = append(l, strconv.Itoa(n))
		}
	}
	return l
}

// someActs: acts that can mostly be done.
func someActs(chance *rand.Rand, names []string) []api.Act {
	var l []api.Act
	for range 1 + chance.Intn(chance.Intn(6)+1) {
		at := chance.Intn(4*len(names)-3) / 4 // the last one seldom
		name, kinds := names[at], []string{"n", "nn", "t", "tn", "nt"}[at]
		values := someRow(chance, kinds)
		switch chance.Intn(20) {
		case 0:
			l = append(l, create(name, kinds))
		case 1:
			l = append(l, remove(name, values[0]))
		case 2, 3:
			l = append(l, update(name, values...))
		default:
			l = append(l, insert(name, values...))
		}
	}
	return l
}

func TestApplyOfAnything(t *testing.T) {
	chance := rand.New(rand.NewSource(11))
	names := []string{"a", "b", "c", "d", "e"}
	seen := map[api.Errno]int{}
	for range 60 {
		b, ref := NewBase(), refBase{}
		for range 300 {
			acts := someActs(chance, names)
			err := b.Apply(coded(t, acts...))
			next, act, want := ref.apply(acts)
			ref = next
			seen[want]++
			if want == api.OK && err != nil || want != api.OK && wrongAct(err, act, want) {
				t.Fatalf("%v: %v, want %v of act %d", acts, err, want, act)
			}
			if !slices.Equal(b.Tables(), ref.tables()) {
				t.Fatalf("%v: %v, want %v", acts, b.Tables(), ref.tables())
			}
			for _, name := range names {
				if got := rowsOf(b, name); !reflect.DeepEqual(got, ref.rows(name)) {
					t.Fatalf("%v: %s: %v, want %v", acts, name, got, ref.rows(name))
				}
			}
		}
	}
	for _, e := range []api.Errno{api.OK, api.ErrTable, api.ErrRow, api.ErrKey, api.ErrFull} {
		if seen[e] < 200 {
			t.Errorf("%v is seldom tried: %v", e, seen)
		}
	}
}

func TestRowsEndWhenYieldSaysNo(t *testing.T) {
	b := filled(t)
	for most := 1; most < 20; most++ {
		var got []api.Value
		b.Rows("t")(func(row []api.Value) bool {
			got = append(got, row[0])
			return len(got) < most
		})
		if len(got) != min(most, 16) || got[len(got)-1] != api.Number(10*(len(got)-1)) {
			t.Errorf("%d: %v", most, got)
		}
	}
}

func TestRowsAsTheyStandWhenRowsIsCalled(t *testing.T) {
	b := NewBase()
	none, early := b.Rows("t"), b.Rows("u")
	apply(t, b, create("t", "nn"), insert("t", 1, 1), insert("t", 2, 2), insert("t", 3, 3))
	three := b.Rows("t")
	apply(t, b, update("t", 1, 9), remove("t", 2), insert("t", 0, 0), insert("t", 7, 7), create("u", "n"), insert("u", 1))
	for range 2 { // a function may be asked again
		var got [][]api.Value
		for row := range three {
			got = append(got, row)
			apply(t, b, update("t", 3, len(got)))
		}
		if want := [][]api.Value{row(1, 1), row(2, 2), row(3, 3)}; !reflect.DeepEqual(got, want) {
			t.Errorf("%v, want %v", got, want)
		}
	}
	for range none {
		t.Error("a row of a table that was not there")
	}
	for range early {
		t.Error("a row of a table that was not there")
	}
	expect(t, b, "t", row(0, 0), row(1, 9), row(3, 3), row(7, 7))
}

// While rows are told, acts on the same base neither add to them nor take from them.
func TestApplyWhileRowsAreTold(t *testing.T) {
	b := filled(t)
	n := 0
	for row := range b.Rows("t") {
		if row[0] != api.Number(10*n) {
			t.Errorf("row %d: %v", n, row)
		}
		apply(t, b, remove("t", 150-10*n))
		n++
	}
	if n != 16 || rowsOf(b, "t") != nil {
		t.Error(n, told(b))
	}
}

// P2

func TestRowsAreTheCallers(t *testing.T) {
	b := NewBase()
	apply(t, b, create("t", "nt"), insert("t", 1, "a"), insert("t", 2, "b"), insert("t", 3, "c"))
	before := told(b)
	rows := b.Rows("t")
	var all [][]api.Value
	for row := range rows {
		all = append(all, row)
	}
	spoilRow(all[0])
	if !reflect.DeepEqual(all[1], row(2, "b")) || !reflect.DeepEqual(all[2], row(3, "c")) {
		t.Errorf("a row reaches into another: %v", all)
	}
	for row := range rows {
		spoilRow(row)
	}
	if after := told(b); after != before {
		t.Errorf("%s, and was %s", after, before)
	}
	first := map[api.Value]bool{}
	for row := range rows {
		first[row[0]] = true
	}
	if len(first) != 3 || !first[api.Number(2)] {
		t.Errorf("told again: %v", first)
	}
}

func TestNamesAreTheCallers(t *testing.T) {
	b := NewBase()
	apply(t, b, create("a", "n"), create("b", "n"), create("c", "n"))
	spoil(b.Tables())
	if got := b.Tables(); !slices.Equal(got, []string{"a", "b", "c"}) {
		t.Error(got)
	}
}

func TestBasesAreApart(t *testing.T) {
	a, b := filled(t), filled(t)
	before := told(b)
	apply(t, a, remove("t", 0), update("t", 10), create("u", "n"))
	if told(b) != before || told(NewBase()) != "" {
		t.Error(told(b))
	}
	c := *b
	apply(t, &c, remove("t", 0), create("u", "n"))
	if told(b) != before {
		t.Error("a copy reaches into what it was copied from")
	}
}

// An act's error is the caller's: writing into it changes no later one.
func TestActErrorsAreFresh(t *testing.T) {
	b := NewBase()
	s := coded(t, create("t", "n"), insert("u", 1))
	var a *api.ActError
	if err := b.Apply(s); !errors.As(err, &a) {
		t.Fatal(err)
	}
	a.Act, a.Err = 5, nil
	if err := b.Apply(s); wrongAct(err, 1, api.ErrTable) {
		t.Error(err)
	}
}

// A base that nobody made by NewBase is one with no tables.
func TestZeroBase(t *testing.T) {
	var b Base
	if b.Tables() != nil || rowsOf(&b, "t") != nil {
		t.Error(told(&b))
	}
	apply(t, &b, create("t", "n"), insert("t", 1))
	expect(t, &b, "t", row(1))
}
