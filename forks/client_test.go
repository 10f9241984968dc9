package forks

import (
	"math"
	"math/rand"
	"slices"
	"strings"
	"testing"

	"forks/api"
	"forks/ground"
)

// signed: a digest of key 3, really signed.
func signed(w api.Signer, size int, root string) api.Digest {
	return api.Digest{Key: 3, Size: size, Root: root, Sign: w.Sign(3, signText(size, root))}
}

// digestsOf: those of the first 0, 1 .. of a list.
func digestsOf(w api.Signer, l []string) []api.Digest {
	var all []api.Digest
	for n := range len(l) + 1 {
		all = append(all, signed(w, n, refRoot(l[:n])))
	}
	return all
}

// proofOf: that the first m of the first n were the list once.
func proofOf(l []string, m, n int) []string {
	if m == 0 {
		return nil
	}
	return refSubproof(m, l[:n], true)
}

// accepting: a client of key 3 that has accepted these, each with no proof, or none.
func accepting(t *testing.T, check api.Checker, l ...api.Digest) *Client {
	t.Helper()
	c := NewClient(check, 3)
	for _, d := range l {
		if err := c.Accept(d, nil); err != nil {
			t.Fatalf("%#v: %v", d, err)
		}
	}
	return c
}

// turnDown: the client must not accept this, and stay as it is.
func turnDown(t *testing.T, c *Client, d api.Digest, proof []string, want api.Errno) {
	t.Helper()
	before, was := c.Accepted()
	if err := c.Accept(d, proof); wrong(err, want) {
		t.Errorf("size %d: %v, want %v", d.Size, err, want)
	}
	if after, is := c.Accepted(); after != before || is != was {
		t.Errorf("size %d: accepted: %#v, %v", d.Size, after, is)
	}
}

func accept(t *testing.T, c *Client, d api.Digest, proof []string) {
	t.Helper()
	if err := c.Accept(d, proof); err != nil {
		t.Errorf("size %d: %v", d.Size, err)
	}
	if got, any := c.Accepted(); got != d || !any {
		t.Errorf("size %d: accepted: %#v, %v", d.Size, got, any)
	}
}

// P10

func TestClientExamples(t *testing.T) {
	w := ground.New()
	s := NewServer(w, 3)
	c := NewClient(w, 3)
	if d, any := c.Accepted(); d != (api.Digest{}) || any {
		t.Errorf("%#v, %v", d, any)
	}
	none, _ := s.Digest(0)
	one, err := s.Commit(entry(t, 0))
	if err != nil {
		t.Fatal(err)
	}
	accept(t, c, none, nil)
	accept(t, c, one, nil)
	turnDown(t, c, none, nil, api.ErrOld)
	if e, proof, _ := s.Entry(0, 1); c.Stands(0, e, proof) != nil {
		t.Error("the entry does not stand")
	}
}

// A server and a client, from any size to any later one.
func TestClientGoesWithItsServer(t *testing.T) {
	w := ground.New()
	s, l := servedBy(t, w, 20)
	for m := range 21 {
		for n := m; n <= 20; n++ {
			old, _ := s.Digest(m)
			now, _ := s.Digest(n)
			c := accepting(t, w, old)
			proof, _ := s.Consistency(m, n)
			accept(t, c, now, proof)
			for i := range n {
				e, path, _ := s.Entry(i, n)
				if err := c.Stands(i, e, path); err != nil || e != l[i] {
					t.Errorf("%d of %d: %x, %v", i, n, e, err)
				}
			}
		}
	}
}

// notGood: of a digest: other keys, sizes, roots and signatures, and what the key has signed, but not as a digest.
func notGood(w *ground.Registry, d api.Digest) []api.Digest {
	var l []api.Digest
	bend := func(change func(d *api.Digest)) {
		other := d
		change(&other)
		l = append(l, other)
	}
	for _, key := range []int{2, 4, 0, -3, 3 + 1<<32, math.MinInt, math.MaxInt} {
		bend(func(d *api.Digest) { d.Key = key })
	}
	for _, size := range []int{d.Size - 1, d.Size + 1, -d.Size - 1, d.Size + 1<<32, math.MinInt, math.MaxInt} {
		bend(func(d *api.Digest) { d.Size = size })
	}
	for _, size := range []int{-1, -d.Size - 1, math.MinInt} {
		bend(func(d *api.Digest) { *d = signed(w, size, d.Root) })
	}
	for _, root := range []string{"", "x", d.Root[1:], d.Root + "x", d.Root + d.Root, flip(d.Root, 0), flip(d.Root, 31)} {
		bend(func(d *api.Digest) { d.Root = root })
		if len(root) != 32 {
			bend(func(d *api.Digest) { *d = signed(w, d.Size, root) })
		}
	}
	bend(func(d *api.Digest) { *d = signed(w, d.Size, d.Root+strings.Repeat("x", 256)) })
	for _, sign := range []string{"", "x", "sign", "sign00", d.Sign + "0", "sign99", "sign-1", w.Sign(4, signText(d.Size, d.Root)), w.Sign(3, signText(d.Size+1, d.Root))} {
		bend(func(d *api.Digest) { d.Sign = sign })
	}
	text := signText(d.Size, d.Root)
	for _, other := range []string{"", text[1:], text[7:], "\x04fork" + text[7:], "\x06Digest" + text[7:], text + "\x00", text[:15] + text[16:], text[:14] + "\x01" + text[15:]} {
		bend(func(d *api.Digest) { d.Sign = w.Sign(3, other) })
	}
	return l
}

// otherKeys: of a digest: the same, really signed by others.
func otherKeys(w *ground.Registry, d api.Digest) []api.Digest {
	var l []api.Digest
	for _, key := range []int{2, 4, 0, -3, 3 + 1<<32, math.MinInt, math.MaxInt} {
		l = append(l, api.Digest{Key: key, Size: d.Size, Root: d.Root, Sign: w.Sign(key, signText(d.Size, d.Root))})
	}
	return l
}

func TestAcceptOfWhatIsNotGood(t *testing.T) {
	w := ground.New()
	l := entriesOf(6)
	all := digestsOf(w, l)
	for _, d := range append(notGood(w, all[4]), otherKeys(w, all[4])...) {
		for _, proof := range [][]string{nil, proofOf(l, 2, 4), hashesOf(1)} {
			turnDown(t, accepting(t, w), d, proof, api.ErrSign)
			for _, last := range []int{2, 4, 6} { // what is not good is not even old, nor another story
				turnDown(t, accepting(t, w, all[last]), d, proof, api.ErrSign)
			}
		}
	}
	for _, key := range []int{0, 4, -3} {
		turnDown(t, NewClient(w, key), all[4], nil, api.ErrSign)
	}
}

// Any key may have clients.
func TestClientsOfAnyKey(t *testing.T) {
	for _, key := range []int{0, -1, math.MinInt, math.MaxInt} {
		w := ground.New()
		d, _ := NewServer(w, key).Digest(0)
		accept(t, NewClient(w, key), d, nil)
		turnDown(t, NewClient(w, key^1), d, nil, api.ErrSign)
	}
}

func TestFirstAccept(t *testing.T) {
	w := ground.New()
	l := entriesOf(6)
	for n, d := range digestsOf(w, l) {
		turnDown(t, accepting(t, w), d, []string{""}, api.ErrProof)
		turnDown(t, accepting(t, w), d, hashesOf(1), api.ErrProof)
		turnDown(t, accepting(t, w), d, proofOf(l, 1, max(n, 2)), api.ErrProof)
		accept(t, accepting(t, w), d, nil)
		accept(t, accepting(t, w), d, []string{})
	}
	c := accepting(t, w)
	d := signed(w, 5, refHash("any"))
	turnDown(t, c, d, hashesOf(1), api.ErrProof)
	if err := c.Stands(0, l[0], nil); wrong(err, api.ErrNone) {
		t.Error(err)
	}
	accept(t, c, d, nil)
	for _, n := range hugeSizes() {
		accept(t, accepting(t, w), signed(w, n, refHash("any")), nil)
	}
}

func TestAcceptOfWhatIsOldOrAnotherStory(t *testing.T) {
	w := ground.New()
	l := entriesOf(9)
	all := digestsOf(w, l)
	for m, last := range all {
		c := accepting(t, w, last)
		other := signed(w, m, refHash("other"))
		for _, proof := range [][]string{nil, {""}, hashesOf(1), proofOf(l, max(m-1, 0), m)} {
			turnDown(t, c, other, proof, api.ErrFork)
			for n := range m {
				turnDown(t, c, all[n], proof, api.ErrOld)
				turnDown(t, c, signed(w, n, refHash("other")), proof, api.ErrOld)
			}
		}
	}
	c := accepting(t, w, signed(w, math.MaxInt, refHash("any")))
	turnDown(t, c, all[9], nil, api.ErrOld)
	turnDown(t, c, signed(w, math.MaxInt, refHash("other")), nil, api.ErrFork)
}

func TestAcceptOfWhatGoesOn(t *testing.T) {
	w := ground.New()
	l := entriesOf(17)
	all := digestsOf(w, l)
	for m := range all {
		for n := m; n < len(all); n++ {
			proof := proofOf(l, m, n)
			c := accepting(t, w, all[m])
			for _, bad := range bendsOf(proof) {
				turnDown(t, c, all[n], bad, api.ErrProof)
			}
			if m > 0 && m < n {
				turnDown(t, c, signed(w, n, refHash("other")), proof, api.ErrProof)
			}
			accept(t, c, all[n], proof)
		}
	}
}

// The same list again: with another signature too, which is then what was accepted last.
func TestAcceptAgain(t *testing.T) {
	w := ground.New()
	for n, d := range digestsOf(w, entriesOf(5)) {
		c := accepting(t, w, d)
		turnDown(t, c, d, hashesOf(1), api.ErrProof)
		accept(t, c, d, nil)
		accept(t, c, signed(w, n, d.Root), []string{})
		accept(t, c, d, nil)
	}
}

// No list goes on from one of no entries with another root: not even itself.
func TestAcceptBehindNoEntries(t *testing.T) {
	w := ground.New()
	l := entriesOf(3)
	all := digestsOf(w, l)
	odd := signed(w, 0, refHash("odd"))
	c := accepting(t, w, odd)
	for n, d := range all {
		want := api.ErrProof
		if n == 0 {
			want = api.ErrFork
		}
		turnDown(t, c, d, nil, want)
	}
	turnDown(t, c, odd, nil, api.ErrProof)
	turnDown(t, accepting(t, w, all[0]), odd, nil, api.ErrFork)
	any := signed(w, 3, refHash("any"))
	turnDown(t, accepting(t, w, all[0]), any, hashesOf(1), api.ErrProof)
	accept(t, accepting(t, w, all[0]), any, nil)
}

func TestStands(t *testing.T) {
	w := ground.New()
	l := entriesOf(9)
	c := accepting(t, w)
	for n, d := range digestsOf(w, l) {
		accept(t, c, d, proofOf(l, max(n-1, 0), n))
		for _, i := range anyNumbers(n) {
			if i >= 0 && i < n {
				continue
			}
			if err := c.Stands(i, l[0], nil); wrong(err, api.ErrArg) {
				t.Errorf("%d of %d: %v", i, n, err)
			}
		}
		for i := range n {
			path := refPath(i, l[:n])
			if err := c.Stands(i, l[i], path); err != nil {
				t.Errorf("%d of %d: %v", i, n, err)
			}
			if err := c.Stands(i, l[i]+"x", path); wrong(err, api.ErrProof) {
				t.Errorf("%d of %d: another entry: %v", i, n, err)
			}
			for _, bad := range bendsOf(path) {
				if err := c.Stands(i, l[i], bad); wrong(err, api.ErrProof) {
					t.Errorf("%d of %d: %q: %v", i, n, bad, err)
				}
			}
			if n > 1 {
				if err := c.Stands(i, l[i], refPath(i%(n-1), l[:n-1])); wrong(err, api.ErrProof) {
					t.Errorf("%d of %d: with the proof of an earlier list: %v", i, n, err)
				}
			}
		}
	}
}

func TestNothingStandsAtFirst(t *testing.T) {
	c := accepting(t, ground.New())
	for _, i := range anyNumbers(1) {
		if err := c.Stands(i, "", nil); wrong(err, api.ErrNone) {
			t.Errorf("%d: %v", i, err)
		}
		if err := c.Stands(i, "x", hashesOf(3)); wrong(err, api.ErrNone) {
			t.Errorf("%d: %v", i, err)
		}
	}
}

// refAccept is P10 written out as a table of what goes ahead of what.
func refAccept(good bool, last *api.Digest, d api.Digest, proof []string) api.Errno {
	if !good {
		return api.ErrSign
	}
	if last == nil {
		if len(proof) == 0 {
			return api.OK
		}
		return api.ErrProof
	}
	m, n := last.Size, d.Size
	switch {
	case n < m:
		return api.ErrOld
	case n == m && last.Root != d.Root:
		return api.ErrFork
	case m == 0 && len(proof) == 0 && last.Root == refHash(""), m > 0 && n == m && len(proof) == 0:
		return api.OK
	case m == 0 || n == m:
		return api.ErrProof
	}
	for _, h := range proof {
		if len(h) != 32 {
			return api.ErrProof
		}
	}
	if first, all, ok := refBoth(m, n, last.Root, proof); !ok || first != last.Root || all != d.Root {
		return api.ErrProof
	}
	return api.OK
}

// Two stories that part behind the fourth entry, and a client that is shown both.
func TestAcceptOfAnything(t *testing.T) {
	chance := rand.New(rand.NewSource(13))
	one := entriesOf(12)
	two := append(slices.Clone(one[:4]), hashesOf(8)...)
	stories := [][]string{one, two}
	seen := map[api.Errno]int{}
	for range 400 {
		w := ground.New()
		digests := [][]api.Digest{digestsOf(w, one), digestsOf(w, two)}
		c := NewClient(w, 3)
		var last *api.Digest
		for range 30 {
			side, m, n := chance.Intn(2), chance.Intn(5), chance.Intn(13)
			if last != nil {
				n = min(12, max(0, last.Size+chance.Intn(5)-1))
				m = last.Size
			}
			d, good := digests[side][n], chance.Intn(8) > 0
			if !good {
				d.Sign = digests[side][(n+1)%13].Sign
			}
			var proof []string
			if m <= n && last != nil {
				proof = proofOf(stories[side], m, n)
			}
			if chance.Intn(8) == 0 {
				bends := bendsOf(proof)
				proof = bends[chance.Intn(len(bends))]
			}
			want := refAccept(good, last, d, proof)
			seen[want]++
			if err := c.Accept(d, proof); wrong(err, want) {
				t.Fatalf("%d behind %v: %v, want %v", n, last, err, want)
			}
			if want == api.OK {
				last = &d
			}
			if got, any := c.Accepted(); any != (last != nil) || any && got != *last {
				t.Fatalf("accepted: %#v, want %v", got, last)
			}
		}
	}
	for _, e := range []api.Errno{api.OK, api.ErrSign, api.ErrOld, api.ErrFork, api.ErrProof} {
		if seen[e] < 200 {
			t.Errorf("%v is seldom tried: %v", e, seen)
		}
	}
}

// P2

func TestProofsOfClientsAreLeftAlone(t *testing.T) {
	w := ground.New()
	l := entriesOf(13)
	all := digestsOf(w, l)
	c := accepting(t, w, all[5])
	for _, proof := range [][]string{proofOf(l, 5, 13), refPath(5, l)} {
		room := append(slices.Clone(proof), "a", "b", "c")
		was := slices.Clone(room)
		given := room[:len(proof)]
		accepting(t, w).Accept(all[13], given)
		c.Accept(all[13], given)
		c.Stands(5, l[5], given)
		if !slices.Equal(room, was) {
			t.Error("a proof or its spare room is written into")
		}
		spoil(room)
		if got, _ := c.Accepted(); got != all[13] || c.Stands(5, l[5], refPath(5, l)) != nil {
			t.Error("a proof is kept")
		}
	}
}

func TestClientsAreApart(t *testing.T) {
	w := ground.New()
	all := digestsOf(w, entriesOf(2))
	a, b := accepting(t, w, all[0]), accepting(t, w, all[0])
	c := *a
	accept(t, a, all[1], nil)
	accept(t, &c, all[2], nil)
	for _, x := range []struct {
		c    *Client
		want api.Digest
	}{{a, all[1]}, {b, all[0]}, {&c, all[2]}} {
		if got, _ := x.c.Accepted(); got != x.want {
			t.Errorf("%#v, want %#v", got, x.want)
		}
	}
}

// P1

// yes looks after nothing; no breaks when it is asked.
type (
	yes struct{}
	no  struct{}
)

func (yes) Check(int, string, string) bool { return true }
func (no) Check(int, string, string) bool  { panic("asked") }

// Whoever is handed in is asked, and nobody else; but size and root are looked at whatever it says.
func TestCheckersOfAnyKind(t *testing.T) {
	d := api.Digest{Key: 3, Size: 1, Root: refHash("any"), Sign: strings.Repeat("x", 1000)}
	accept(t, NewClient(yes{}, 3), d, nil)
	for _, bad := range []api.Digest{{Key: 4, Size: 1, Root: d.Root}, {Key: 3, Size: -1, Root: d.Root}, {Key: 3, Size: 1, Root: "x"}, {Key: 3}} {
		turnDown(t, NewClient(yes{}, 3), bad, nil, api.ErrSign)
	}
	var nobody *ground.Registry
	for _, check := range []api.Checker{no{}, nil, nobody} {
		d.Sign = "sign0"
		turnDown(t, NewClient(check, 3), d, nil, api.ErrSign)
		turnDown(t, NewClient(check, 3), api.Digest{}, nil, api.ErrSign)
	}
	turnDown(t, &Client{}, api.Digest{Root: d.Root}, nil, api.ErrSign)
}

func TestAnyDigestsEnd(t *testing.T) {
	roots := []string{"", "x", refHash(""), refHash("") + "x", strings.Repeat("\xff", 255), strings.Repeat("\x00", 256)}
	for _, check := range []api.Checker{yes{}, ground.New()} {
		c := NewClient(check, 0)
		for _, n := range anyNumbers(3) {
			for _, root := range roots {
				for _, proof := range [][]string{nil, {""}, roots, hashesOf(64), hashesOf(200)} {
					c.Accept(api.Digest{Size: n, Root: root}, proof)
					c.Stands(n, root, proof)
					NewClient(check, n).Accept(api.Digest{Key: n, Size: n, Root: root, Sign: root}, proof)
				}
			}
		}
	}
}
