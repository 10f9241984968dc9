package forks

import (
	"encoding/hex"
	"errors"
	"math"
	"runtime"
	"slices"
	"strings"
	"sync"
	"sync/atomic"
	"testing"
	"time"

	"forks/api"
)

const most = 40 // entries of the lists that are tried through

// hugeSizes: lists that nobody can hold.
func hugeSizes() []int {
	return []int{1<<31 - 1, 1 << 31, 1<<32 + 1, 1<<61 + 1, 1 << 62, 1<<62 + 1, 1<<62 + 5, 1<<62 + 1<<61, math.MaxInt - 1, math.MaxInt}
}

func hex8(s string) string { return hex.EncodeToString([]byte(s))[:16] }

// wrong tells whether an error is not just this one (api.OK: nil).
func wrong(err error, want api.Errno) bool {
	if want == api.OK {
		return err != nil
	}
	if err == nil || err.Error() == "" {
		return true
	}
	var act *api.ActError
	if errors.As(err, &act) {
		return true
	}
	for e := api.OK; e <= api.ErrNone; e++ {
		if errors.Is(err, e) != (e == want) {
			return true
		}
	}
	return false
}

// P3

func TestHash(t *testing.T) {
	if got := hex8(Hash("")); got != "e3b0c44298fc1c14" {
		t.Errorf("of nothing: %s", got)
	}
	for _, n := range []int{0, 1, 54, 55, 56, 57, 63, 64, 65, 119, 120, 128, 129, 100000} {
		s := strings.Repeat("\xff\x00\x80", n)[:n]
		if got := Hash(s); got != refHash(s) {
			t.Errorf("of %d bytes: %x", n, got)
		}
	}
}

// P4

func TestRootExamples(t *testing.T) {
	eight := []string{"", "\x00", "\x10", "\x20\x21", "\x30\x31", "\x40\x41\x42\x43", "\x50\x51\x52\x53\x54\x55\x56\x57", "\x60\x61\x62\x63\x64\x65\x66\x67\x68\x69\x6a\x6b\x6c\x6d\x6e\x6f"}
	for _, c := range []struct {
		l    []string
		want string
	}{{nil, "e3b0c44298fc1c14"}, {[]string{}, "e3b0c44298fc1c14"}, {[]string{""}, "6e340b9cffb37a98"}, {eight, "5dc9da79a70659a9"}} {
		if got := hex8(Root(c.l, 4)); got != c.want {
			t.Errorf("of %d entries: %s, want %s", len(c.l), got, c.want)
		}
	}
}

func TestRootOfAnyWorkers(t *testing.T) {
	for _, n := range []int{0, 1, 2, 3, 4, 5, 6, 7, 8, 9, 15, 16, 17, 31, 33, 64, 100, 1000, 1025} {
		l := entriesOf(n)
		want := refRoot(l)
		for _, workers := range []int{math.MinInt, -1, 0, 1, 2, 3, 4, 5, 6, 7, 8, 9, 1000, math.MaxInt} {
			if Root(l, workers) != want {
				t.Errorf("%d entries, %d workers", n, workers)
			}
		}
	}
}

// An entry that looks like two halves is not the list of the two.
func TestRootMarks(t *testing.T) {
	two := []string{"a", "b"}
	if Root([]string{"\x01" + Root(two[:1], 1) + Root(two[1:], 1)}, 1) == Root(two, 1) {
		t.Error("an entry passes for two")
	}
}

// P5

func TestInclusion(t *testing.T) {
	for n := range most {
		l := entriesOf(n)
		for i := range n {
			got, err := Inclusion(l, i)
			if err != nil || !slices.Equal(got, refPath(i, l)) {
				t.Errorf("%d of %d: %x, %v", i, n, got, err)
			}
		}
		for _, i := range []int{math.MinInt, -1, n, n + 1, math.MaxInt} {
			if got, err := Inclusion(l, i); got != nil || wrong(err, api.ErrArg) {
				t.Errorf("%d of %d: %x, %v", i, n, got, err)
			}
		}
	}
	if got, _ := Inclusion([]string{"x"}, 0); got != nil {
		t.Errorf("of one entry: %x", got)
	}
	l := entriesOf(3)
	if got, _ := Inclusion(l, 2); !slices.Equal(got, []string{Root(l[:2], 1)}) {
		t.Errorf("2 of 3: %x", got)
	}
}

func TestIncluded(t *testing.T) {
	for n := 1; n < most; n++ {
		l := entriesOf(n)
		root := refRoot(l)
		for i := range n {
			proof := refPath(i, l)
			for j := range n {
				want := api.ErrProof
				if i == j {
					want = api.OK
				}
				if err := Included(n, j, l[j], proof, root); wrong(err, want) {
					t.Errorf("%d with the proof of %d of %d: %v", j, i, n, err)
				}
			}
			for _, j := range []int{math.MinInt, -1, n, math.MaxInt} {
				if err := Included(n, j, l[i], proof, root); wrong(err, api.ErrArg) {
					t.Errorf("%d of %d: %v", j, n, err)
				}
			}
		}
	}
}

func TestIncludedInNoList(t *testing.T) {
	for _, size := range []int{math.MinInt, -1, 0} {
		for _, i := range []int{math.MinInt, -2, -1, 0, 1, math.MaxInt} {
			if err := Included(size, i, "", nil, Hash("")); wrong(err, api.ErrArg) {
				t.Errorf("%d of %d: %v", i, size, err)
			}
			if err := Included(size, i, "", []string{"short"}, "short"); wrong(err, api.ErrArg) {
				t.Errorf("%d of %d, with what are no hashes: %v", i, size, err)
			}
		}
	}
}

// Each change of a good proof is refused, wherever it is.
func TestIncludedBent(t *testing.T) {
	for n := 1; n < most; n++ {
		l := entriesOf(n)
		root := refRoot(l)
		for i := range n {
			proof := refPath(i, l)
			for _, bent := range bendsOf(proof) {
				if err := Included(n, i, l[i], bent, root); wrong(err, api.ErrProof) {
					t.Errorf("%d of %d, %d hashes for %d: %v", i, n, len(bent), len(proof), err)
				}
			}
			for _, r := range []string{"", root[1:], root + "x", flip(root, 0), flip(root, 31)} {
				if err := Included(n, i, l[i], proof, r); wrong(err, api.ErrProof) {
					t.Errorf("%d of %d, root of %d bytes: %v", i, n, len(r), err)
				}
			}
			if err := Included(n, i, l[i]+"x", proof, root); wrong(err, api.ErrProof) {
				t.Errorf("another entry as %d of %d: %v", i, n, err)
			}
		}
	}
}

// Proofs of every length, with the root that they come to: only one length is right.
func TestIncludedLengths(t *testing.T) {
	hashes := hashesOf(130)
	for _, n := range append(hugeSizes(), 1, 2, 3, 5, 6, 7, 8, 12, 1000, 1024) {
		for _, i := range []int{0, 1, n / 3, n / 2, n/2 + 1, n - 2, n - 1} {
			if i < 0 || i >= n {
				continue
			}
			right := 0
			for k := range hashes {
				root, ok := refClimb(n, i, "e", hashes[:k])
				want := api.ErrProof
				if ok {
					want = api.OK
					right++
				} else {
					root = stubbornClimb(hashes[:k])
				}
				if err := Included(n, i, "e", hashes[:k], root); wrong(err, want) {
					t.Errorf("%d of %d, %d hashes: %v, want %v", i, n, k, err, want)
				}
				if err := Included(n, i, "f", hashes[:k], root); wrong(err, api.ErrProof) {
					t.Errorf("another as %d of %d, %d hashes: %v", i, n, k, err)
				}
			}
			if right != 1 {
				t.Errorf("%d of %d: %d lengths are right", i, n, right)
			}
		}
	}
}

// stubbornClimb: the root of who does not look at the size.
func stubbornClimb(proof []string) string {
	r := refHash("\x00" + "e")
	for _, p := range proof {
		r = refNode(p, r)
	}
	return r
}

// P6

func TestConsistency(t *testing.T) {
	for n := range most {
		l := entriesOf(n)
		for m := 1; m <= n; m++ {
			got, err := Consistency(l, m)
			if err != nil || !slices.Equal(got, refSubproof(m, l, true)) {
				t.Errorf("%d in %d: %x, %v", m, n, got, err)
			}
			if (got == nil) != (m == n) {
				t.Errorf("%d in %d: nil: %v", m, n, got == nil)
			}
		}
		for _, m := range []int{math.MinInt, -1, 0, n + 1, math.MaxInt} {
			if got, err := Consistency(l, m); got != nil || wrong(err, api.ErrArg) {
				t.Errorf("%d in %d: %x, %v", m, n, got, err)
			}
		}
	}
}

func TestConsistencyExamples(t *testing.T) {
	l := entriesOf(7)
	of := func(from, to int) string { return Root(l[from:to], 1) }
	if got, _ := Consistency(l[:3], 2); !slices.Equal(got, []string{of(2, 3)}) {
		t.Errorf("2 in 3: %x", got)
	}
	if got, _ := Consistency(l, 3); !slices.Equal(got, []string{of(2, 3), of(3, 4), of(0, 2), of(4, 7)}) {
		t.Errorf("3 in 7: %x", got)
	}
}

func TestConsistent(t *testing.T) {
	for n := 1; n < most; n++ {
		l := entriesOf(n)
		b := refRoot(l)
		for m := 1; m <= n; m++ {
			proof := refSubproof(m, l, true)
			for j := 1; j <= n; j++ {
				want := api.ErrProof
				if j == m {
					want = api.OK
				}
				if err := Consistent(j, n, refRoot(l[:j]), b, proof); wrong(err, want) {
					t.Errorf("%d with the proof of %d in %d: %v", j, m, n, err)
				}
			}
		}
	}
}

func TestConsistentBent(t *testing.T) {
	for n := 1; n < most; n++ {
		l := entriesOf(n)
		b := refRoot(l)
		for m := 1; m <= n; m++ {
			a, proof := refRoot(l[:m]), refSubproof(m, l, true)
			for _, bent := range bendsOf(proof) {
				if err := Consistent(m, n, a, b, bent); wrong(err, api.ErrProof) {
					t.Errorf("%d in %d, %d hashes for %d: %v", m, n, len(bent), len(proof), err)
				}
			}
			for _, r := range [][2]string{{a[1:], b}, {a, b[1:]}, {a + "x", b}, {a, b + "x"}, {"", ""}, {a[1:], b[1:]}, {flip(a, 0), b}, {a, flip(b, 31)}} {
				if err := Consistent(m, n, r[0], r[1], proof); wrong(err, api.ErrProof) {
					t.Errorf("%d in %d, roots of %d and %d bytes: %v", m, n, len(r[0]), len(r[1]), err)
				}
			}
			if err := Consistent(m, n, b, a, proof); m < n && wrong(err, api.ErrProof) {
				t.Errorf("%d in %d, the roots the other way round: %v", m, n, err)
			}
		}
	}
}

func TestConsistentArguments(t *testing.T) {
	root := Hash("")
	for _, c := range [][2]int{{-1, 0}, {-1, 5}, {math.MinInt, math.MaxInt}, {1, 0}, {6, 5}, {math.MaxInt, math.MaxInt - 1}, {0, -1}, {-1, -1}, {-2, -1}, {0, math.MinInt}} {
		if err := Consistent(c[0], c[1], root, root, nil); wrong(err, api.ErrArg) {
			t.Errorf("%d in %d: %v", c[0], c[1], err)
		}
		if err := Consistent(c[0], c[1], "short", "short", []string{"short"}); wrong(err, api.ErrArg) {
			t.Errorf("%d in %d, with what are no hashes: %v", c[0], c[1], err)
		}
	}
}

func TestConsistentOfNothingOrAll(t *testing.T) {
	none, x, y := Hash(""), Hash("x"), Hash("y")
	for _, c := range []struct {
		m, n  int
		a, b  string
		proof []string
		want  api.Errno
	}{
		{0, 0, none, none, nil, api.OK},
		{0, 0, none, x, nil, api.OK},
		{0, 0, none, x, []string{}, api.OK},
		{0, 0, x, x, nil, api.ErrProof},
		{0, 7, none, x, nil, api.OK},
		{0, math.MaxInt, none, x, nil, api.OK},
		{0, 7, x, none, nil, api.ErrProof},
		{0, 7, none, x, []string{x}, api.ErrProof},
		{0, 7, none, x[1:], nil, api.ErrProof},
		{0, 7, none, "", nil, api.ErrProof},
		{0, 7, "", x, nil, api.ErrProof},
		{0, 7, none + "x", x, nil, api.ErrProof},
		{7, 7, x, x, nil, api.OK},
		{math.MaxInt, math.MaxInt, x, x, nil, api.OK},
		{7, 7, x, x, []string{}, api.OK},
		{7, 7, x, y, nil, api.ErrProof},
		{7, 7, x, x, []string{x}, api.ErrProof},
		{7, 7, x[1:], x[1:], nil, api.ErrProof},
		{7, 7, "", "", nil, api.ErrProof},
		{1, 1, none, none, nil, api.OK},
		{1, 2, x, x, nil, api.ErrProof},
	} {
		if err := Consistent(c.m, c.n, c.a, c.b, c.proof); wrong(err, c.want) {
			t.Errorf("%d in %d, %.2x and %.2x, %d hashes: %v, want %v", c.m, c.n, c.a, c.b, len(c.proof), err, c.want)
		}
	}
}

// Proofs of every length, with the roots that they come to: only one length is right.
func TestConsistentLengths(t *testing.T) {
	hashes := hashesOf(130)
	for _, n := range append(hugeSizes(), 2, 3, 5, 6, 7, 8, 12, 1000, 1024) {
		for _, m := range []int{1, 2, 3, 4, n / 3, n / 2, n/2 + 1, 1 << 61, 1 << 62, n - 2, n - 1} {
			if m < 1 || m >= n {
				continue
			}
			right := 0
			for k := range hashes {
				a, b, ok := refBoth(m, n, Hash("a"), hashes[:k])
				want := api.ErrProof
				if ok {
					want = api.OK
					right++
				} else {
					a, b = Hash("a"), Hash("a")
				}
				if err := Consistent(m, n, a, b, hashes[:k]); wrong(err, want) {
					t.Errorf("%d in %d, %d hashes: %v, want %v", m, n, k, err, want)
				}
			}
			if right != 1 {
				t.Errorf("%d in %d: %d lengths are right", m, n, right)
			}
		}
	}
}

// What is no hash is not taken for one: not cut, not filled up with zeros.
func TestShortAndLongAreNoHashes(t *testing.T) {
	zeros, x := strings.Repeat("\x00", 32), Hash("x")
	for _, c := range []struct{ bad, near string }{{"", zeros}, {"\x00", zeros}, {zeros[1:], zeros}, {zeros + "\x00", zeros}, {x[:31], x[:31] + "\x00"}, {x + "y", x}, {x + x, x}} {
		for _, err := range []error{
			Consistent(1, 2, c.bad, refNode(c.near, x), []string{x}),
			Consistent(4, 8, c.bad, refNode(c.near, x), []string{x}),
			Consistent(1, 2, x, refNode(x, c.near), []string{c.bad}),
			Consistent(3, 3, c.bad, c.near, nil),
			Consistent(3, 3, c.near, c.bad, nil),
			Consistent(3, 3, c.bad, c.bad, nil),
			Consistent(0, 3, Hash(""), c.bad, nil),
			Included(2, 0, "e", []string{c.bad}, refNode(refHash("\x00e"), c.near)),
			Included(2, 1, "e", []string{c.bad}, refNode(c.near, refHash("\x00e"))),
		} {
			if wrong(err, api.ErrProof) {
				t.Errorf("a text of %d bytes: %v", len(c.bad), err)
			}
		}
	}
}

// bendsOf: what is nearly a proof: a hash more or less at each place, two that are the other way round, one that is another or of another length.
func bendsOf(proof []string) [][]string {
	x := Hash("x")
	l := [][]string{append(slices.Clone(proof), x), append(slices.Clone(proof), ""), append(slices.Clone(proof), hashesOf(200)...)}
	for i, h := range proof {
		l = append(l, slices.Delete(slices.Clone(proof), i, i+1), slices.Insert(slices.Clone(proof), i, x), slices.Insert(slices.Clone(proof), i, h))
		for _, other := range []string{"", h[1:], h + "x", h + h, x, flip(h, 0), flip(h, 31)} {
			p := slices.Clone(proof)
			p[i] = other
			l = append(l, p)
		}
		if i > 0 {
			p := slices.Clone(proof)
			p[i], p[i-1] = p[i-1], p[i]
			l = append(l, p)
		}
	}
	return l
}

// flip: a hash with another bit at one byte.
func flip(h string, at int) string {
	b := []byte(h)
	b[at] ^= 1
	return string(b)
}

// P1

func TestNoGoroutineIsLeft(t *testing.T) {
	was := runtime.NumGoroutine()
	l := entriesOf(100)
	for workers := -1; workers < 12; workers++ {
		Root(l, workers)
		Inclusion(l, workers)
		Consistency(l, workers)
	}
	s, _ := servedBy(t, &scribe{}, 10)
	served(s)
	for i := 0; i < 200 && runtime.NumGoroutine() > was; i++ {
		time.Sleep(10 * time.Millisecond)
	}
	if now := runtime.NumGoroutine(); now > was {
		t.Errorf("%d goroutines are left", now-was)
	}
}

// A million workers are 8: had each a goroutine, many more would be seen.
func TestNotAGoroutineForEachWorkerAskedFor(t *testing.T) {
	was := runtime.NumGoroutine()
	var over, seen atomic.Int64
	var looks sync.WaitGroup
	looks.Add(1)
	go func() {
		defer looks.Done()
		for over.Load() == 0 {
			seen.Store(max(seen.Load(), int64(runtime.NumGoroutine()-was)))
			runtime.Gosched()
		}
	}()
	Root(entriesOf(5000), 1000000)
	over.Store(1)
	looks.Wait()
	if seen.Load() > 1000 {
		t.Errorf("%d goroutines at a time", seen.Load())
	}
}

func TestAnyArgumentsEnd(t *testing.T) {
	numbers := []int{math.MinInt, math.MinInt + 1, -1, 0, 1, 2, 3, 1 << 62, math.MaxInt - 1, math.MaxInt}
	texts := []string{"", "x", Hash(""), Hash("") + "x", strings.Repeat("\x00", 32)}
	lists := [][]string{nil, {}, {""}, texts, hashesOf(64), hashesOf(200)}
	for _, l := range lists {
		for _, m := range numbers {
			Root(l, m)
			Inclusion(l, m)
			Consistency(l, m)
			for _, n := range numbers {
				for _, a := range texts {
					Included(m, n, a, l, a)
					Consistent(m, n, a, Hash(a), l)
				}
			}
		}
	}
}

// P2

func TestProofsAreTheCallers(t *testing.T) {
	l := entriesOf(13)
	for _, call := range []func() ([]string, error){
		func() ([]string, error) { return Inclusion(l, 5) },
		func() ([]string, error) { return Consistency(l, 5) },
	} {
		first, _ := call()
		want := slices.Clone(first)
		second, _ := call()
		spoil(first)
		third, _ := call()
		if !slices.Equal(second, want) || !slices.Equal(third, want) {
			t.Error("two proofs share memory")
		}
	}
	if !slices.Equal(l, entriesOf(13)) {
		t.Error("a proof shares memory with the list")
	}
}

func spoil(l []string) {
	l = l[:cap(l)]
	for i := range l {
		l[i] = "spoilt"
	}
}

func TestListsAreLeftAlone(t *testing.T) {
	l := entriesOf(13)
	proof, _ := Inclusion(l, 5)
	other, _ := Consistency(l, 5)
	root, old := Root(l, 1), Root(l[:5], 1)
	for _, list := range [][]string{l, proof, other} {
		room := append(slices.Clone(list), "a", "b", "c")
		was := slices.Clone(room)
		given := room[:len(list)]
		Root(given, 3)
		for i := range given {
			Inclusion(given, i)
			Consistency(given, i)
		}
		Included(13, 5, l[5], given, root)
		Consistent(5, 13, old, root, given)
		if !slices.Equal(room, was) {
			t.Errorf("a list of %d or its spare room is written into", len(list))
		}
	}
}

// A list that was proved over and is then written into has the new root, and the old proof stays.
func TestListsAreNotKept(t *testing.T) {
	l := entriesOf(6)
	proof, _ := Inclusion(l, 0)
	was := slices.Clone(proof)
	before := Root(l, 2)
	l[1], l[5] = "another", "another too"
	if !slices.Equal(proof, was) {
		t.Error("the proof has changed with the list")
	}
	if now := Root(l, 2); now == before || now != refRoot(l) {
		t.Error("the root of a list that has changed")
	}
	if again, _ := Inclusion(l, 0); !slices.Equal(again, refPath(0, l)) {
		t.Error("the proof in a list that has changed")
	}
}
