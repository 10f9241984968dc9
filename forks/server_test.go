package forks

import (
	"encoding/binary"
	"fmt"
	"math"
	"math/rand"
	"reflect"
	"slices"
	"strconv"
	"testing"

	"forks/api"
	"forks/ground"
)

// scribe signs as the world does, and writes down what.
type scribe struct {
	ground.Registry
	wrote []string
}

func (s *scribe) Sign(key int, text string) string {
	s.wrote = append(s.wrote, strconv.Itoa(key)+" "+text)
	return s.Registry.Sign(key, text)
}

// signText: what is signed of a digest.
func signText(size int, root string) string {
	num := binary.BigEndian.AppendUint64(nil, uint64(size))
	return "\x06digest" + string(num) + string([]byte{byte(len(root))}) + root
}

// anyNumbers: below, at and above what there may be, and the ends.
func anyNumbers(n int) []int {
	return []int{math.MinInt, math.MinInt + 1, -n, -1, 0, 1, n - 1, n, n + 1, 2 * n, math.MaxInt - 1, math.MaxInt}
}

// entry: the k-th transaction of a server that has had all ahead of it.
func entry(t *testing.T, k int) string {
	t.Helper()
	switch {
	case k == 0:
		return coded(t, create("t", "nt"), create("u", "n"))
	case k%2 == 1:
		return coded(t, insert("t", k%32, strconv.Itoa(k)))
	}
	return coded(t, remove("t", (k-1)%32), insert("t", -k, "x"), remove("t", -k))
}

// servedBy: a server of key 3 with n entries, and these.
func servedBy(t *testing.T, sign api.Signer, n int) (*Server, []string) {
	t.Helper()
	s := NewServer(sign, 3)
	var l []string
	for k := range n {
		l = append(l, entry(t, k))
		if _, err := s.Commit(l[k]); err != nil {
			t.Fatalf("entry %d: %v", k, err)
		}
	}
	return s, l
}

// served: all that a server tells. It has nothing signed that was not signed before, but for the digest of no entries.
func served(s *Server) string {
	out := fmt.Sprint(s.Size(), rowsOf(s, "t"), rowsOf(s, "u"))
	for n := range s.Size() + 1 {
		d, err := s.Digest(n)
		out += fmt.Sprintf(" %#v %v", d, err)
	}
	for i := range s.Size() {
		e, proof, err := s.Entry(i, s.Size())
		out += fmt.Sprintf(" %q %q %v", e, proof, err)
	}
	return out
}

// P9

func TestNewServer(t *testing.T) {
	w := &scribe{}
	s := NewServer(w, 7)
	if s.Size() != 0 || rowsOf(s, "t") != nil || rowsOf(s, "") != nil || len(w.wrote) != 0 {
		t.Error(s.Size(), rowsOf(s, "t"), w.wrote)
	}
	d, err := s.Digest(0)
	if err != nil || d != (api.Digest{Key: 7, Size: 0, Root: refHash(""), Sign: "sign0"}) || hex8(d.Root) != "e3b0c44298fc1c14" {
		t.Errorf("%#v, %v", d, err)
	}
	if proof, err := s.Consistency(0, 0); proof != nil || err != nil {
		t.Error(proof, err)
	}
	if !slices.Equal(w.wrote, []string{"7 " + signText(0, refHash(""))}) {
		t.Errorf("signed: %q", w.wrote)
	}
}

func TestCommitTellsTheDigestOfAll(t *testing.T) {
	for _, key := range []int{3, 0, -1, math.MinInt, math.MaxInt} {
		w := &scribe{}
		s := NewServer(w, key)
		var l, signed []string
		for k := range 64 {
			l = append(l, entry(t, k))
			d, err := s.Commit(l[k])
			root := refRoot(l)
			if err != nil || d != (api.Digest{Key: key, Size: k + 1, Root: root, Sign: "sign" + strconv.Itoa(k)}) {
				t.Fatalf("entry %d: %#v, %v", k, d, err)
			}
			if !w.Check(key, signText(k+1, root), d.Sign) {
				t.Fatalf("entry %d: something else is signed: %q", k, w.wrote[k])
			}
			if s.Size() != k+1 {
				t.Fatalf("entry %d: size %d", k, s.Size())
			}
			signed = append(signed, strconv.Itoa(key)+" "+signText(k+1, root))
		}
		if !slices.Equal(w.wrote, signed) {
			t.Error("something else is signed")
		}
	}
}

// Whatever is asked, and however often: each digest is signed once, when it is told for the first time, and nothing else ever.
func TestEachDigestIsSignedOnce(t *testing.T) {
	w := &scribe{}
	s, _ := servedBy(t, w, 5)
	first := make([]api.Digest, 9)
	for _, n := range []int{5, 2, 0, 0, 3, 5, 1, 4, 2, 0} {
		d, err := s.Digest(n)
		if err != nil || d.Size != n {
			t.Errorf("%d: %#v, %v", n, d, err)
		}
		if first[n].Sign == "" {
			first[n] = d
		}
		if d != first[n] {
			t.Errorf("%d: %#v, and was %#v", n, d, first[n])
		}
	}
	if len(w.wrote) != 6 || first[0].Sign != "sign5" {
		t.Errorf("%d signed; the digest of none by %s", len(w.wrote), first[0].Sign)
	}
	for k := 5; k < 8; k++ {
		first[k+1], _ = s.Commit(entry(t, k))
		s.Commit("")
		s.Commit(coded(t, create("t", "n")))
	}
	for n, want := range first {
		if d, err := s.Digest(n); err != nil || d != want {
			t.Errorf("%d: %#v, %v, and was %#v", n, d, err, want)
		}
	}
	for _, m := range anyNumbers(9) {
		s.Digest(m)
		s.Entry(m, 4)
		s.Consistency(m, 4)
	}
	rowsOf(s, "t")
	if len(w.wrote) != 9 {
		t.Errorf("%d signed", len(w.wrote))
	}
}

// blank signs with the empty text, which is a signature like any other.
type blank struct{ times int }

func (b *blank) Sign(int, string) string {
	b.times++
	return ""
}

func TestAnySignatureIsKept(t *testing.T) {
	b := &blank{}
	s, _ := servedBy(t, b, 3)
	for n := range 4 {
		s.Digest(n)
		s.Digest(n)
	}
	if b.times != 4 {
		t.Errorf("signed %d times", b.times)
	}
}

func TestDigestArguments(t *testing.T) {
	w := &scribe{}
	for size := range 4 {
		s, _ := servedBy(t, w, size)
		was := len(w.wrote)
		for _, n := range anyNumbers(size) {
			d, err := s.Digest(n)
			if n < 0 || n > size {
				if wrong(err, api.ErrArg) || d != (api.Digest{}) {
					t.Errorf("%d of %d: %#v, %v", n, size, d, err)
				}
			} else if err != nil {
				t.Errorf("%d of %d: %v", n, size, err)
			}
		}
		if len(w.wrote) != was+1 {
			t.Errorf("%d more are signed", len(w.wrote)-was)
		}
	}
}

// refuseCommit: the server must not commit this (act -1: it is not an act's error), and stay as it is.
func refuseCommit(t *testing.T, s *Server, w *scribe, tx string, act int, want api.Errno) {
	t.Helper()
	before, signed := served(s), len(w.wrote)
	d, err := s.Commit(tx)
	if act < 0 && wrong(err, want) || act >= 0 && wrongAct(err, act, want) || d != (api.Digest{}) {
		t.Errorf("%x: %#v, %v, want %v of act %d", tx, d, err, want, act)
	}
	if after := served(s); after != before || len(w.wrote) != signed {
		t.Errorf("%x: %s, and was %s", tx, after, before)
	}
}

func TestCommitErrors(t *testing.T) {
	for _, size := range []int{0, 1, 6} {
		w := &scribe{}
		s, _ := servedBy(t, w, size)
		s.Digest(0)
		tx := coded(t, create("v", "n"), insert("v", 7))
		for _, bad := range []string{"", "\x00", "v", tx + "\x00", tx[:len(tx)-1], tx[1:], "\x03" + tx[1:]} {
			refuseCommit(t, s, w, bad, -1, api.ErrForm)
		}
		refuseCommit(t, s, w, coded(t, create("v", "n"), insert("v", 7), insert("v", 7)), 2, api.ErrKey)
		refuseCommit(t, s, w, coded(t, insert("v", 7)), 0, api.ErrTable)
		refuseCommit(t, s, w, coded(t, create("v", "n"), insert("v", "x")), 1, api.ErrRow)
		if d, err := s.Commit(tx); err != nil || d.Size != size+1 {
			t.Errorf("afterwards: %#v, %v", d, err)
		}
		expect(t, s, "v", row(7))
	}
}

// A full server says so of whatever is a transaction, but not of what is none.
func TestFullServer(t *testing.T) {
	w := &scribe{}
	s, l := servedBy(t, w, 64)
	s.Digest(0)
	refuseCommit(t, s, w, coded(t, update("t", 31, "new")), -1, api.ErrFull)
	refuseCommit(t, s, w, coded(t, create("t", "n")), -1, api.ErrFull)
	refuseCommit(t, s, w, coded(t, insert("t", 1)), -1, api.ErrFull)
	refuseCommit(t, s, w, "", -1, api.ErrForm)
	refuseCommit(t, s, w, l[63]+"x", -1, api.ErrForm)
	if d, err := s.Digest(64); err != nil || d.Root != refRoot(l) || d.Sign != "sign63" {
		t.Errorf("%#v, %v", d, err)
	}
	expect(t, s, "t", row(31, "63"))
}

// A table that is full is another fault than a server that is: it has an act.
func TestFullTableOfAServer(t *testing.T) {
	w := &scribe{}
	s := NewServer(w, 3)
	s.Commit(coded(t, create("t", "n")))
	for k := range 16 {
		s.Commit(coded(t, insert("t", k)))
	}
	s.Digest(0)
	refuseCommit(t, s, w, coded(t, update("t", 1), insert("t", 16)), 1, api.ErrFull)
}

func TestEntry(t *testing.T) {
	s, l := servedBy(t, &scribe{}, 20)
	for n := -1; n <= 21; n++ {
		for i := -1; i <= 21; i++ {
			e, proof, err := s.Entry(i, n)
			if i < 0 || i >= n || n > 20 {
				if e != "" || proof != nil || wrong(err, api.ErrArg) {
					t.Errorf("%d of %d: %q, %q, %v", i, n, e, proof, err)
				}
				continue
			}
			if e != l[i] || !reflect.DeepEqual(proof, refPath(i, l[:n])) || err != nil {
				t.Errorf("%d of %d: %q, %q, %v", i, n, e, proof, err)
			}
			if d, _ := s.Digest(n); Included(n, i, e, proof, d.Root) != nil {
				t.Errorf("%d of %d is not shown by its proof", i, n)
			}
		}
	}
}

func TestServerConsistency(t *testing.T) {
	s, l := servedBy(t, &scribe{}, 20)
	for n := -1; n <= 21; n++ {
		for m := -1; m <= 21; m++ {
			proof, err := s.Consistency(m, n)
			if m < 0 || m > n || n > 20 {
				if proof != nil || wrong(err, api.ErrArg) {
					t.Errorf("%d of %d: %q, %v", m, n, proof, err)
				}
				continue
			}
			var want []string
			if m > 0 {
				want = refSubproof(m, l[:n], true)
			}
			if !reflect.DeepEqual(proof, want) || err != nil {
				t.Errorf("%d of %d: %q, %v", m, n, proof, err)
			}
			a, _ := s.Digest(m)
			b, _ := s.Digest(n)
			if Consistent(m, n, a.Root, b.Root, proof) != nil {
				t.Errorf("%d of %d is not shown by its proof", m, n)
			}
		}
	}
}

func TestServerArguments(t *testing.T) {
	for _, size := range []int{0, 1, 5} {
		s, _ := servedBy(t, &scribe{}, size)
		for _, m := range anyNumbers(size) {
			for _, n := range anyNumbers(size) {
				_, _, err := s.Entry(m, n)
				if bad := m < 0 || m >= n || n > size; bad != (err == api.ErrArg) {
					t.Errorf("entry %d of %d: %v", m, n, err)
				}
				_, err = s.Consistency(m, n)
				if bad := m < 0 || m > n || n > size; bad != (err == api.ErrArg) {
					t.Errorf("%d in %d: %v", m, n, err)
				}
			}
		}
	}
}

func TestServerOfAnything(t *testing.T) {
	chance := rand.New(rand.NewSource(12))
	names := []string{"a", "b", "c", "d", "e"}
	seen := map[api.Errno]int{}
	for range 30 {
		w := &scribe{}
		s, ref, l := NewServer(w, 5), refBase{}, []string(nil)
		for range 250 {
			acts := someActs(chance, names)
			tx := coded(t, acts...)
			next, act, want := ref.apply(acts)
			if len(l) == 64 {
				next, act, want = ref, -1, api.ErrFull
			}
			d, err := s.Commit(tx)
			ref = next
			seen[want]++
			switch {
			case want == api.OK:
				l = append(l, tx)
				if err != nil || d != (api.Digest{Key: 5, Size: len(l), Root: refRoot(l), Sign: "sign" + strconv.Itoa(len(l)-1)}) {
					t.Fatalf("%v: %#v, %v", acts, d, err)
				}
			case act < 0 && wrong(err, want), act >= 0 && wrongAct(err, act, want), d != (api.Digest{}):
				t.Fatalf("%v: %#v, %v, want %v of act %d", acts, d, err, want, act)
			}
			if s.Size() != len(l) || len(w.wrote) != len(l) {
				t.Fatalf("%v: %d entries, %d signed, want %d", acts, s.Size(), len(w.wrote), len(l))
			}
			for _, name := range names {
				if got := rowsOf(s, name); !reflect.DeepEqual(got, ref.rows(name)) {
					t.Fatalf("%v: %s: %v, want %v", acts, name, got, ref.rows(name))
				}
			}
		}
	}
	for _, e := range []api.Errno{api.OK, api.ErrTable, api.ErrRow, api.ErrKey, api.ErrFull} {
		if seen[e] < 100 {
			t.Errorf("%v is seldom tried: %v", e, seen)
		}
	}
}

func TestRowsOfAServerAsTheyStand(t *testing.T) {
	s, _ := servedBy(t, &scribe{}, 2)
	rows := s.Rows("t")
	s.Commit(coded(t, update("t", 1, "new"), insert("t", 2, "more")))
	got := 0
	for r := range rows {
		got++
		if !reflect.DeepEqual(r, row(1, "1")) {
			t.Error(r)
		}
		spoilRow(r)
	}
	if got != 1 {
		t.Errorf("%d rows", got)
	}
	expect(t, s, "t", row(1, "new"), row(2, "more"))
	s.Rows("t")(func(r []api.Value) bool {
		got++
		spoilRow(r)
		return false
	})
	if got != 2 {
		t.Error("told on behind a no")
	}
	expect(t, s, "t", row(1, "new"), row(2, "more"))
}

// P2

func TestProofsOfAServerAreTheCallers(t *testing.T) {
	s, _ := servedBy(t, &scribe{}, 13)
	before := served(s)
	for n := range 14 {
		for m := range n {
			_, one, _ := s.Entry(m, n)
			two, _ := s.Consistency(m, n)
			again, _ := s.Consistency(m, n)
			was := slices.Clone(again)
			spoil(one)
			spoil(two)
			if !slices.Equal(again, was) {
				t.Errorf("%d of %d: two proofs share memory", m, n)
			}
		}
	}
	if served(s) != before {
		t.Error("a proof shares memory with the server")
	}
	s.Commit(entry(t, 13))
	if d, _ := s.Digest(13); d.Root == "" || served(s) == before {
		t.Errorf("%#v", d)
	}
}

func TestServersAreApart(t *testing.T) {
	w := &scribe{}
	a, l := servedBy(t, w, 5)
	b, _ := servedBy(t, w, 5)
	before := served(b)
	a.Commit(entry(t, 5))
	if served(b) != before {
		t.Error("one server changes the other")
	}
	c := *b
	c.Commit(entry(t, 5))
	if served(b) != before {
		t.Error("a copy reaches into what it was copied from")
	}
	other := coded(t, create("v", "n"))
	d, err := b.Commit(other)
	if err != nil || d.Root != refRoot(append(l, other)) {
		t.Errorf("%#v, %v", d, err)
	}
	if e, _, _ := c.Entry(5, 6); e != entry(t, 5) {
		t.Errorf("the copy has %x", e)
	}
	expect(t, &c, "t", row(5, "5"))
	expect(t, b, "t")
}

// P1

// broken signs till it is told to break.
type broken struct {
	scribe
	off bool
}

func (b *broken) Sign(key int, text string) string {
	if b.off {
		panic("no ink")
	}
	return b.scribe.Sign(key, text)
}

// If who signs fails, nothing is signed and nothing has changed; what was signed is told on.
func TestSignerThatFails(t *testing.T) {
	b := &broken{}
	s, l := servedBy(t, b, 4)
	b.off = true
	for range 2 {
		if d, err := s.Commit(entry(t, 4)); d != (api.Digest{}) || wrong(err, api.ErrSign) {
			t.Errorf("%#v, %v", d, err)
		}
		if d, err := s.Digest(0); d != (api.Digest{}) || wrong(err, api.ErrSign) {
			t.Errorf("%#v, %v", d, err)
		}
		if d, err := s.Digest(4); d.Root != refRoot(l) || err != nil || s.Size() != 4 {
			t.Errorf("%#v, %v", d, err)
		}
		expect(t, s, "t", row(3, "3"))
	}
	b.off = false
	if d, err := s.Commit(entry(t, 4)); d.Size != 5 || d.Sign != "sign4" || err != nil {
		t.Errorf("%#v, %v", d, err)
	}
}

func TestNobodySigns(t *testing.T) {
	var nobody *scribe
	for _, s := range []*Server{NewServer(nil, 3), NewServer(nobody, 3), {}} {
		if d, err := s.Commit(entry(t, 0)); d != (api.Digest{}) || wrong(err, api.ErrSign) {
			t.Errorf("%#v, %v", d, err)
		}
		if d, err := s.Digest(0); d != (api.Digest{}) || wrong(err, api.ErrSign) {
			t.Errorf("%#v, %v", d, err)
		}
		if _, err := s.Commit(""); wrong(err, api.ErrForm) || s.Size() != 0 || rowsOf(s, "t") != nil {
			t.Error(err, s.Size())
		}
	}
}
