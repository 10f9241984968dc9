package forks

import (
	"encoding/hex"
	"fmt"
	"math"
	"math/rand"
	"reflect"
	"regexp"
	"slices"
	"strings"
	"testing"

	"forks/api"
)

// txForm is what P7 says of bytes, as one pattern over a text with a rune for each byte.
var txForm = regexp.MustCompile(`(?s)^` + counted(1, 6, actForm()) + `$`)

// counted: from least to most of them behind their number.
func counted(least, most int, form string) string {
	var l []string
	for n := least; n <= most; n++ {
		l = append(l, fmt.Sprintf(`\x{%02x}(?:%s){%d}`, n, form, n))
	}
	return "(?:" + strings.Join(l, "|") + ")"
}

func actForm() string {
	name := counted(1, 8, `[a-z]`)
	value := `(?:n.{8}|t` + counted(0, 12, `.`) + `)`
	return `\x01` + name + counted(1, 4, `[nt]`) + `|[\x02\x03]` + name + counted(1, 4, value) + `|\x04` + name + counted(1, 1, value)
}

func isTxForm(s string) bool {
	var l []rune
	for _, c := range []byte(s) {
		l = append(l, rune(c))
	}
	return txForm.MatchString(string(l))
}

func create(table, kinds string) api.Act {
	return api.Act{Kind: api.Create, Table: table, Kinds: kinds}
}

func rowAct(kind int, table string, row ...any) api.Act {
	a := api.Act{Kind: kind, Table: table}
	for _, v := range row {
		switch x := v.(type) {
		case int:
			a.Row = append(a.Row, api.Number(x))
		case string:
			a.Row = append(a.Row, api.Text(x))
		case api.Value:
			a.Row = append(a.Row, x)
		case nil:
			a.Row = append(a.Row, nil)
		}
	}
	return a
}

func insert(table string, row ...any) api.Act { return rowAct(api.Insert, table, row...) }
func update(table string, row ...any) api.Act { return rowAct(api.Update, table, row...) }
func remove(table string, key any) api.Act    { return rowAct(api.Delete, table, key) }

// coded is for transactions that are some.
func coded(t *testing.T, acts ...api.Act) string {
	t.Helper()
	s, err := Encode(api.Tx{Acts: acts})
	if err != nil || s == "" {
		t.Fatalf("%v: %x, %v", acts, s, err)
	}
	return s
}

func unhex(s string) string {
	b, err := hex.DecodeString(strings.ReplaceAll(s, " ", ""))
	if err != nil {
		panic(err)
	}
	return string(b)
}

// someTx: a transaction with something of everything.
func someTx() []api.Act {
	return []api.Act{
		create("t", "nt"), create("abcdefgh", "tntn"), insert("t", 7, "abcdefghijkl"), update("zz", "", math.MinInt, "\x00\xff", math.MaxInt),
		remove("u", -1), remove("u", "xyz"),
	}
}

// P7

func TestEncodeBytes(t *testing.T) {
	for _, c := range []struct {
		acts []api.Act
		want string
	}{
		{[]api.Act{create("t", "nt")}, "01 01 01 74 02 6e 74"},
		{[]api.Act{remove("t", 5)}, "01 04 01 74 01 6e 00 00 00 00 00 00 00 05"},
		{[]api.Act{remove("t", "")}, "01 04 01 74 01 74 00"},
		{[]api.Act{insert("az", -1)}, "01 02 02 61 7a 01 6e ff ff ff ff ff ff ff ff"},
		{[]api.Act{update("t", 0x0102030405060708, "\xff\x00")}, "01 03 01 74 02 6e 01 02 03 04 05 06 07 08 74 02 ff 00"},
		{[]api.Act{insert("t", math.MinInt, math.MaxInt)}, "01 02 01 74 02 6e 80 00 00 00 00 00 00 00 6e 7f ff ff ff ff ff ff ff"},
		{[]api.Act{create("a", "n"), create("b", "tttt")}, "02 01 01 61 01 6e 01 01 62 04 74 74 74 74"},
	} {
		s, err := Encode(api.Tx{Acts: c.acts})
		if err != nil || s != unhex(c.want) {
			t.Errorf("%v: %x, %v, want %s", c.acts, s, err, c.want)
		}
		back, err := Decode(unhex(c.want))
		if err != nil || !reflect.DeepEqual(back.Acts, c.acts) {
			t.Errorf("%s: %v, %v, want %v", c.want, back, err, c.acts)
		}
	}
}

func TestEdgesOfActs(t *testing.T) {
	longest := "abcdefghijkl"
	for _, a := range []api.Act{
		create("a", "n"), create("z", "t"), create("abcdefgh", "nnnn"), insert("t", 1, 2, 3, 4), insert("t", longest), update("t", 1), update("t", "", "", "", longest),
		remove("t", longest), {Kind: api.Create, Table: "t", Kinds: "n", Row: []api.Value{}}, insert("t", strings.Repeat("\xff", 12)),
	} {
		if s, err := Encode(api.Tx{Acts: []api.Act{a}}); err != nil || !isTxForm(s) {
			t.Errorf("%v: %x, %v", a, s, err)
		}
	}
}

// named: a kind of act whose other parts are right.
func named(kind int, table string) api.Act {
	a := api.Act{Kind: kind, Table: table, Row: []api.Value{api.Number(1)}}
	if kind == api.Create {
		a.Kinds, a.Row = "n", nil
	}
	return a
}

func noActs() []api.Act {
	long := "abcdefghijklm"
	l := []api.Act{
		{}, create("t", ""), create("t", "nnnnn"), create("t", "x"), create("t", "nN"), create("t", "n\x00"), create("t", strings.Repeat("n", 256)), create("t", strings.Repeat("n", 257)),
		{Kind: api.Create, Table: "t", Kinds: "n", Row: []api.Value{api.Number(1)}}, {Kind: api.Create, Table: "t", Kinds: "n", Row: []api.Value{nil}},
		insert("t"), update("t"), {Kind: api.Delete, Table: "t"}, insert("t", 1, 2, 3, 4, 5), update("t", 1, 2, 3, 4, 5), rowAct(api.Delete, "t", 1, 2), rowAct(api.Delete, "t", 1, 2, 3, 4),
		insert("t", long), insert("t", 1, long), update("t", long), update("t", 1, 2, 3, long), remove("t", long), insert("t", strings.Repeat("x", 256)), insert("t", strings.Repeat("x", 268)),
	}
	for _, kind := range []int{api.Insert, api.Update, api.Delete} {
		a := named(kind, "t")
		a.Kinds = "n"
		l = append(l, a, rowAct(kind, "t", nil))
	}
	for _, kind := range []int{math.MinInt, -255, -1, 0, 5, 6, 255, 256, 257, 258, 260, 1<<32 + 1, math.MaxInt} {
		l = append(l, named(kind, "t"), api.Act{Kind: kind, Table: "t", Kinds: "n"})
	}
	for _, name := range []string{"", "abcdefghi", "T", "t1", "a b", "\x00", "a`", "a{", "é", "\xff", strings.Repeat("a", 256), strings.Repeat("a", 257)} {
		for kind := api.Create; kind <= api.Delete; kind++ {
			l = append(l, named(kind, name))
		}
	}
	return l
}

func TestEncodeOfNoTransaction(t *testing.T) {
	good := create("t", "n")
	for _, a := range noActs() {
		for _, acts := range [][]api.Act{{a}, {good, a}, {a, good}, {good, good, good, good, good, a}} {
			if s, err := Encode(api.Tx{Acts: acts}); s != "" || wrong(err, api.ErrForm) {
				t.Errorf("%v: %x, %v", acts, s, err)
			}
		}
	}
	for _, n := range []int{0, 1, 6, 7, 8, 255, 256, 257, 262, 1000} {
		want := api.ErrForm
		if n >= 1 && n <= 6 {
			want = api.OK
		}
		if s, err := Encode(api.Tx{Acts: slices.Repeat([]api.Act{good}, n)}); wrong(err, want) || (s == "") != (want != api.OK) {
			t.Errorf("%d acts: %x, %v", n, s, err)
		}
	}
}

// Types that call themselves values.
type (
	otherNumber int64
	loud        struct{}
	within      struct{ api.Number }
)

func (otherNumber) Kind() byte { return 'n' }
func (*loud) Kind() byte       { panic("asked") }

func TestEncodeOfOtherValues(t *testing.T) {
	number, text := api.Number(1), api.Text("x")
	for _, v := range []api.Value{nil, &number, &text, (*api.Number)(nil), (*api.Text)(nil), otherNumber(1), &loud{}, (*loud)(nil), within{1}, struct{ api.Value }{}} {
		for _, a := range []api.Act{insert("t", v), update("t", 1, v), remove("t", v)} {
			if s, err := Encode(api.Tx{Acts: []api.Act{a}}); s != "" || wrong(err, api.ErrForm) {
				t.Errorf("%T: %x, %v", v, s, err)
			}
		}
	}
}

// checkDecode holds Decode against the pattern, and its answer against Encode.
func checkDecode(t *testing.T, s string) {
	t.Helper()
	got, err := Decode(s)
	if !isTxForm(s) {
		if got.Acts != nil || wrong(err, api.ErrForm) {
			t.Errorf("%x: %v, %v", s, got, err)
		}
		return
	}
	if err != nil {
		t.Errorf("%x: %v", s, err)
	}
	if back, err := Encode(got); err != nil || back != s {
		t.Errorf("%x: %v is %x, %v", s, got, back, err)
	}
}

func TestDecodeOfWhatIsEncoded(t *testing.T) {
	for n := 1; n <= 6; n++ {
		acts := someTx()[6-n:]
		s := coded(t, acts...)
		got, err := Decode(s)
		if err != nil || !reflect.DeepEqual(got.Acts, acts) {
			t.Errorf("%v: %v, %v", acts, got, err)
		}
		checkDecode(t, s)
	}
}

func TestDecodeOfBentBytes(t *testing.T) {
	samples := []string{coded(t, someTx()...), coded(t, create("t", "n")), coded(t, insert("abcdefgh", 1, 2, 3, 4)), coded(t, remove("t", "abcdefghijkl"), remove("t", 1))}
	for _, s := range samples {
		for i := range len(s) + 1 {
			checkDecode(t, s[:i])
			checkDecode(t, s[i:])
			for c := range 256 {
				checkDecode(t, s[:i]+string([]byte{byte(c)})+s[i:])
				if i < len(s) {
					checkDecode(t, s[:i]+string([]byte{byte(c)})+s[i+1:])
				}
			}
			if i < len(s) {
				checkDecode(t, s[:i]+s[i+1:])
			}
		}
		checkDecode(t, s+s)
		checkDecode(t, s+"\x00")
	}
}

func TestDecodeOfAnything(t *testing.T) {
	for a := range 256 {
		checkDecode(t, string([]byte{byte(a)}))
		for b := range 256 {
			checkDecode(t, string([]byte{byte(a), byte(b)}))
		}
	}
	chance := rand.New(rand.NewSource(7))
	bytes := "\x00\x01\x01\x01\x02\x03\x04\x05\x06\x07\x08\x09\x0c\x0dntntabz\xff"
	for range 200000 {
		s := make([]byte, chance.Intn(24))
		for i := range s {
			s[i] = bytes[chance.Intn(len(bytes))]
		}
		checkDecode(t, string(s))
	}
	for _, s := range []string{strings.Repeat("\xff", 1<<20), strings.Repeat("\x01", 1<<20), strings.Repeat("\x00", 1<<20), "\xff" + strings.Repeat("\x02\x01t\x01t\x00", 1<<16)} {
		if got, err := Decode(s); got.Acts != nil || wrong(err, api.ErrForm) {
			t.Errorf("%d bytes: %v", len(s), err)
		}
	}
}

// Decode gives just so many acts, columns and bytes as P7 lets be.
func TestDecodeEdges(t *testing.T) {
	one := "\x02\x01t\x01t\x00"
	for n := range 256 {
		c := string([]byte{byte(n)})
		for _, s := range []string{
			c + strings.Repeat(one, n),
			"\x01\x01" + c + strings.Repeat("a", n) + "\x01n",
			"\x01\x01\x01t" + c + strings.Repeat("n", n),
			"\x01\x02\x01t" + c + strings.Repeat("t\x00", n),
			"\x01\x04\x01t" + c + strings.Repeat("t\x00", n),
			"\x01\x02\x01t\x01t" + c + strings.Repeat("x", n),
			"\x01" + c + "\x01t\x01n",
			"\x01" + c + "\x01t\x01n\x00\x00\x00\x00\x00\x00\x00\x00",
			"\x01\x02\x01" + c + "\x01t\x00",
			"\x01\x02\x01t\x01" + c + "\x00",
		} {
			checkDecode(t, s)
		}
	}
}

func TestPartsThatAnActHasNot(t *testing.T) {
	got, err := Decode(coded(t, create("t", "n"), insert("t", 1), update("t", 1), remove("t", 1)))
	if err != nil || len(got.Acts) != 4 {
		t.Fatal(got, err)
	}
	for i, a := range got.Acts {
		if i == 0 && a.Row != nil || i > 0 && a.Kinds != "" {
			t.Errorf("act %d: %v", i, a)
		}
	}
}

// P1, P2

func spoilRow(row []api.Value) {
	row = row[:cap(row)]
	for i := range row {
		row[i] = api.Text("spoilt")
	}
}

func spoilTx(t api.Tx) {
	for _, a := range t.Acts {
		spoilRow(a.Row)
	}
	acts := t.Acts[:cap(t.Acts)]
	for i := range acts {
		acts[i] = api.Act{Table: "spoilt"}
	}
}

func TestDecodedListsAreTheCallers(t *testing.T) {
	s := coded(t, insert("t", 1, "a", 2), insert("t", 2, "b", 3), insert("t", 3, "c"))
	want, _ := Decode(s)
	for i := range want.Acts { // a row's spare room is no other row's
		got, _ := Decode(s)
		spoilRow(got.Acts[i].Row)
		for k := range want.Acts {
			if k != i && !reflect.DeepEqual(got.Acts[k], want.Acts[k]) {
				t.Errorf("row %d reaches into row %d: %v", i, k, got.Acts[k])
			}
		}
		spoilTx(got)
		if again, err := Decode(s); err != nil || !reflect.DeepEqual(again, want) {
			t.Errorf("after writing into row %d: %v, %v", i, again, err)
		}
	}
}

func TestEncodeLeavesListsAlone(t *testing.T) {
	acts := append(make([]api.Act, 0, 9), someTx()...)
	row := append(make([]api.Value, 0, 9), api.Number(1), api.Text("x"))
	acts[2].Row = row
	s := coded(t, acts...)
	want := someTx()
	want[2].Row = []api.Value{api.Number(1), api.Text("x")}
	if !reflect.DeepEqual(acts, want) || !reflect.DeepEqual(acts[:9][6:], make([]api.Act, 3)) || !reflect.DeepEqual(row[:9][2:], make([]api.Value, 7)) {
		t.Errorf("changed: %v", acts)
	}
	got, _ := Decode(s)
	spoilTx(api.Tx{Acts: acts})
	if !reflect.DeepEqual(got.Acts, want) {
		t.Errorf("kept: %v", got)
	}
}
