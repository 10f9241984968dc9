package forks

import (
	"encoding/binary"
	"fmt"
	"math"
	"math/rand"
	"slices"
	"strconv"
	"strings"
	"testing"

	"forks/api"
	"forks/ground"
)

// signedBy: a digest of a key, really signed.
func signedBy(w api.Signer, key, size int, root string) api.Digest {
	return api.Digest{Key: key, Size: size, Root: root, Sign: w.Sign(key, signText(size, root))}
}

// refDigest: a digest's bytes in an evidence, good or not.
func refDigest(d api.Digest) string {
	b := binary.BigEndian.AppendUint64(nil, uint64(d.Key))
	b = binary.BigEndian.AppendUint64(b, uint64(d.Size))
	b = append(append(b, byte(len(d.Root))), d.Root...)
	return string(append(append(b, byte(len(d.Sign))), d.Sign...))
}

func refEvidence(a, b api.Digest) string { return "\x04fork\x02" + refDigest(a) + refDigest(b) }

// keeping: an auditor that keeps these.
func keeping(t *testing.T, check api.Checker, l ...api.Digest) *Auditor {
	t.Helper()
	a := NewAuditor(check)
	for _, d := range l {
		if e, err := a.Store(d); e != "" || err != nil {
			t.Fatalf("%#v: %x, %v", d, e, err)
		}
	}
	if got := a.Pool(); !slices.Equal(got, l) {
		t.Fatalf("%#v, want %#v", got, l)
	}
	return a
}

// kept: all that an auditor tells, asked for these keys and sizes.
func kept(a *Auditor, keys, sizes []int) string {
	out := fmt.Sprintf("%#v", a.Pool())
	for _, key := range keys {
		for _, m := range sizes {
			for _, n := range sizes {
				out += fmt.Sprint(" ", a.Linked(key, m, n))
			}
		}
	}
	return out
}

// refuseStore: the auditor must tell this, and stay as it is.
func refuseStore(t *testing.T, a *Auditor, d api.Digest, evidence string, want api.Errno) {
	t.Helper()
	before := a.Pool()
	if e, err := a.Store(d); e != evidence || wrong(err, want) {
		t.Errorf("%#v: %x, %v, want %x, %v", d, e, err, evidence, want)
	}
	if after := a.Pool(); !slices.Equal(after, before) {
		t.Errorf("%#v: the pool is %#v, and was %#v", d, after, before)
	}
}

func refuseReply(t *testing.T, a *Auditor, key, m, n int, proof []string, want api.Errno) {
	t.Helper()
	before, pool := a.Linked(key, m, n), a.Pool()
	if err := a.Reply(key, m, n, proof); wrong(err, want) {
		t.Errorf("%d, %d to %d: %v, want %v", key, m, n, err, want)
	}
	if a.Linked(key, m, n) != before || !slices.Equal(a.Pool(), pool) {
		t.Errorf("%d, %d to %d: something has changed", key, m, n)
	}
}

func reply(t *testing.T, a *Auditor, key, m, n int, proof []string) {
	t.Helper()
	pool := a.Pool()
	if err := a.Reply(key, m, n, proof); err != nil {
		t.Errorf("%d, %d to %d: %v", key, m, n, err)
	}
	if !a.Linked(key, m, n) || !slices.Equal(a.Pool(), pool) {
		t.Errorf("%d, %d to %d: not linked, or the pool has changed", key, m, n)
	}
}

// P11

func TestNewAuditor(t *testing.T) {
	a := NewAuditor(ground.New())
	if got := a.Pool(); len(got) != 0 {
		t.Errorf("%#v", got)
	}
	for _, key := range anyNumbers(3) {
		for _, m := range anyNumbers(3) {
			for _, n := range anyNumbers(3) {
				refuseReply(t, a, key, m, n, nil, api.ErrNone)
				if a.Linked(key, m, n) {
					t.Errorf("%d, %d to %d is linked", key, m, n)
				}
			}
		}
	}
}

func TestStoreKeeps(t *testing.T) {
	w := ground.New()
	any := refHash("any")
	for _, l := range [][]api.Digest{
		{signedBy(w, 3, 5, any), signedBy(w, 3, 0, any), signedBy(w, 3, 4, any), signedBy(w, 3, 6, any), signedBy(w, 3, math.MaxInt, any), signedBy(w, 3, 1<<32+5, any)},
		{signedBy(w, 3, 5, any), signedBy(w, 4, 5, refHash("other")), signedBy(w, 3+1<<32, 5, refHash("third")), signedBy(w, -3, 5, any), signedBy(w, math.MinInt, 5, any), signedBy(w, math.MaxInt, 5, any)},
		{signedBy(w, 5, 3, any), signedBy(w, 3, 5, refHash("other")), signedBy(w, 0, 0, any)},
	} {
		for n := range len(l) + 1 {
			keeping(t, w, l[:n]...)
		}
	}
}

func TestStoreOfWhatIsNotGood(t *testing.T) {
	w := ground.New()
	l := entriesOf(9)
	all := digestsOf(w, l)
	for _, d := range notGood(w, all[4]) {
		refuseStore(t, keeping(t, w), d, "", api.ErrSign)
		refuseStore(t, keeping(t, w, all[4]), d, "", api.ErrSign)
		// what is not good is not even another story, and not one too many
		refuseStore(t, keeping(t, w, signed(w, 4, refHash("other"))), d, "", api.ErrSign)
		refuseStore(t, keeping(t, w, all[3:9]...), d, "", api.ErrSign)
		refuseStore(t, keeping(t, w, append(slices.Clone(all[5:10]), all[0])...), d, "", api.ErrSign)
	}
	refuseStore(t, keeping(t, ground.New()), all[4], "", api.ErrSign)
}

// Of what is kept the first signature is, and stays.
func TestStoreAgain(t *testing.T) {
	w := ground.New()
	all := digestsOf(w, entriesOf(8))
	for n := 1; n <= 6; n++ {
		a := keeping(t, w, all[:n]...)
		for size := range n {
			refuseStore(t, a, all[size], "", api.OK)
			refuseStore(t, a, signed(w, size, all[size].Root), "", api.OK)
		}
	}
}

func TestStoreOfAnotherStory(t *testing.T) {
	w := ground.New()
	all := digestsOf(w, entriesOf(8))
	for n := 1; n <= 6; n++ {
		a := keeping(t, w, all[:n]...)
		for size := range n {
			other := signed(w, size, flip(all[size].Root, 31))
			third := signed(w, size, flip(all[size].Root, 0))
			refuseStore(t, a, other, refEvidence(all[size], other), api.ErrFork)
			refuseStore(t, a, third, refEvidence(all[size], third), api.ErrFork)
			refuseStore(t, a, other, refEvidence(all[size], other), api.ErrFork)
			refuseStore(t, a, all[size], "", api.OK)
		}
	}
}

func TestEvidenceBytes(t *testing.T) {
	w := ground.New()
	one, two := strings.Repeat("a", 32), strings.Repeat("b", 32)
	a := keeping(t, w, signedBy(w, -2, 1, one), signedBy(w, 258, 1<<40+7, one))
	want := "04666f726b02" +
		"0000000000000102" + "0000010000000007" + "20" + strings.Repeat("61", 32) + "057369676e31" +
		"0000000000000102" + "0000010000000007" + "20" + strings.Repeat("62", 32) + "057369676e32"
	if e, err := a.Store(signedBy(w, 258, 1<<40+7, two)); e != unhex(want) || wrong(err, api.ErrFork) {
		t.Errorf("%x, %v", e, err)
	}
	want = "04666f726b02" +
		"fffffffffffffffe" + "0000000000000001" + "20" + strings.Repeat("61", 32) + "057369676e30" +
		"fffffffffffffffe" + "0000000000000001" + "20" + strings.Repeat("62", 32) + "057369676e33"
	if e, err := a.Store(signedBy(w, -2, 1, two)); e != unhex(want) || wrong(err, api.ErrFork) {
		t.Errorf("%x, %v", e, err)
	}
}

// A full auditor still knows what it keeps, and finds two stories.
func TestFullAuditor(t *testing.T) {
	w := ground.New()
	all := digestsOf(w, entriesOf(12))
	a := keeping(t, w, all[2:8]...)
	for _, d := range append([]api.Digest{all[0], all[1]}, all[8:]...) {
		refuseStore(t, a, d, "", api.ErrFull)
	}
	refuseStore(t, a, signedBy(w, 4, 2, all[2].Root), "", api.ErrFull)
	refuseStore(t, a, signedBy(w, 4, 2, refHash("other")), "", api.ErrFull)
	other := signed(w, 7, refHash("other"))
	refuseStore(t, a, other, refEvidence(all[7], other), api.ErrFork)
	refuseStore(t, a, all[7], "", api.OK)
}

func TestReply(t *testing.T) {
	w := ground.New()
	l := entriesOf(17)
	all := digestsOf(w, l)
	for m := range all {
		for n := m + 1; n < len(all); n++ {
			a := keeping(t, w, all[n], signedBy(w, 4, n, all[n].Root), all[m], signedBy(w, 4, m, all[m].Root))
			proof := proofOf(l, m, n)
			for _, bad := range bendsOf(proof) {
				refuseReply(t, a, 3, m, n, bad, api.ErrProof)
			}
			refuseReply(t, a, 3, n, m, proof, api.ErrNone)
			reply(t, a, 3, m, n, proof)
			refuseReply(t, a, 3, m, n, hashesOf(1), api.ErrProof)
			if !a.Linked(3, m, n) || a.Linked(3, n, m) || a.Linked(4, m, n) || a.Linked(3, m, m) || a.Linked(3, n, n) {
				t.Errorf("%d to %d: linked are others", m, n)
			}
			reply(t, a, 3, m, n, proof)
			reply(t, a, 4, m, n, proof)
		}
	}
}

// Only what is kept is linked, and only an earlier one to a later one.
func TestReplyOfNone(t *testing.T) {
	w := ground.New()
	l := entriesOf(9)
	all := digestsOf(w, l)
	a := keeping(t, w, all[7], all[0], all[4], signedBy(w, 5, 2, all[2].Root), signedBy(w, 5, 4, all[4].Root))
	has := map[string]bool{"3 7": true, "3 0": true, "3 4": true, "5 2": true, "5 4": true}
	numbers := append(anyNumbers(7), 2, 3, 4, 5)
	for _, key := range numbers {
		for _, m := range numbers {
			for _, n := range numbers {
				if has[fmt.Sprint(key, m)] && has[fmt.Sprint(key, n)] && m < n {
					continue
				}
				refuseReply(t, a, key, m, n, nil, api.ErrNone)
				refuseReply(t, a, key, m, n, proofOf(l, 4, 7), api.ErrNone)
				if a.Linked(key, m, n) {
					t.Errorf("%d, %d to %d is linked", key, m, n)
				}
			}
		}
	}
	reply(t, a, 3, 0, 4, nil)
	reply(t, a, 3, 0, 7, []string{})
	reply(t, a, 3, 4, 7, proofOf(l, 4, 7))
	reply(t, a, 5, 2, 4, proofOf(l, 2, 4))
}

// Links are no chain: each is shown by itself.
func TestEachLinkIsShown(t *testing.T) {
	w := ground.New()
	l := entriesOf(9)
	all := digestsOf(w, l)
	a := keeping(t, w, all[2], all[4], all[5], all[9])
	reply(t, a, 3, 2, 4, proofOf(l, 2, 4))
	reply(t, a, 3, 4, 9, proofOf(l, 4, 9))
	keys, sizes := []int{0, 2, 3, 4, 5, 9}, []int{0, 2, 3, 4, 5, 9}
	for _, key := range keys {
		for _, m := range sizes {
			for _, n := range sizes {
				want := key == 3 && (m == 2 && n == 4 || m == 4 && n == 9)
				if a.Linked(key, m, n) != want {
					t.Errorf("%d, %d to %d: %v", key, m, n, !want)
				}
			}
		}
	}
}

// What was linked stays so, whatever comes.
func TestLinkedFromThenOn(t *testing.T) {
	w := ground.New()
	l := entriesOf(9)
	all := digestsOf(w, l)
	a := keeping(t, w, all[2], all[4])
	reply(t, a, 3, 2, 4, proofOf(l, 2, 4))
	before := kept(a, []int{3}, []int{2, 4})
	a.Store(signed(w, 2, refHash("other")))
	a.Store(signed(w, 4, refHash("other")))
	a.Store(api.Digest{Key: 3, Size: 2})
	a.Reply(3, 2, 4, nil)
	a.Reply(3, 4, 2, nil)
	if after := kept(a, []int{3}, []int{2, 4}); after != before {
		t.Errorf("%s, and was %s", after, before)
	}
	for _, n := range []int{5, 6, 7, 8, 9} {
		a.Store(all[n])
		a.Reply(3, 2, n, proofOf(l, 2, n))
		a.Reply(3, 4, n, proofOf(l, 4, n))
		if !a.Linked(3, 2, 4) || a.Linked(3, 4, n) != (n <= 8) {
			t.Errorf("at %d", n)
		}
	}
}

// Another list than the kept ones' does not link them; nor does the list of another size.
func TestReplyOfAnotherList(t *testing.T) {
	w := ground.New()
	l := entriesOf(9)
	all := digestsOf(w, l)
	odd := signed(w, 7, refHash("odd"))
	a := keeping(t, w, all[3], odd, all[9])
	refuseReply(t, a, 3, 3, 7, proofOf(l, 3, 7), api.ErrProof)
	refuseReply(t, a, 3, 7, 9, proofOf(l, 7, 9), api.ErrProof)
	refuseReply(t, a, 3, 3, 9, proofOf(l, 3, 8), api.ErrProof)
	refuseReply(t, a, 3, 3, 9, proofOf(hashesOf(9), 3, 9), api.ErrProof)
	reply(t, a, 3, 3, 9, proofOf(l, 3, 9))
}

// From no entries anything goes on; from no entries with another root nothing.
func TestReplyBehindNoEntries(t *testing.T) {
	w := ground.New()
	any := signed(w, 5, refHash("any"))
	a := keeping(t, w, any, signed(w, 0, refHash("")), signedBy(w, 4, 0, refHash("odd")), signedBy(w, 4, 5, refHash("any")))
	refuseReply(t, a, 3, 0, 5, hashesOf(1), api.ErrProof)
	refuseReply(t, a, 4, 0, 5, hashesOf(1), api.ErrProof)
	refuseReply(t, a, 4, 0, 5, nil, api.ErrProof)
	reply(t, a, 3, 0, 5, nil)
}

func TestReplyOfHugeSizes(t *testing.T) {
	w := ground.New()
	a := keeping(t, w, signed(w, 1<<62, refHash("a")), signed(w, math.MaxInt, refHash("b")), signed(w, 1<<62+1, refNode(refHash("a"), refHash("c"))))
	reply(t, a, 3, 1<<62, 1<<62+1, []string{refHash("c")})
	for _, proof := range [][]string{nil, {""}, hashesOf(1), hashesOf(62), hashesOf(64)} {
		refuseReply(t, a, 3, 1<<62, math.MaxInt, proof, api.ErrProof)
		refuseReply(t, a, 3, math.MaxInt, 1<<62, proof, api.ErrNone)
	}
}

// An auditor, and a server that it asks for proofs.
func TestAuditorGoesWithAServer(t *testing.T) {
	w := ground.New()
	s, _ := servedBy(t, w, 20)
	var l []api.Digest
	for _, n := range []int{13, 0, 20, 1, 8, 19} {
		d, _ := s.Digest(n)
		l = append(l, d)
	}
	a := keeping(t, w, l...)
	for m := range 21 {
		for n := range 21 {
			proof, _ := s.Consistency(m, n)
			err := a.Reply(3, m, n, proof)
			both := slices.ContainsFunc(l, func(d api.Digest) bool { return d.Size == m }) && slices.ContainsFunc(l, func(d api.Digest) bool { return d.Size == n })
			if linked := both && m < n; linked != (err == nil) || a.Linked(3, m, n) != linked {
				t.Errorf("%d to %d: %v, %v", m, n, err, a.Linked(3, m, n))
			}
		}
	}
}

// refAuditor is P11 written out anew: a digest by its key and size, and in which order they came.
type refAuditor struct {
	by     map[string]api.Digest
	order  []string
	linked map[string]bool
}

func (a *refAuditor) store(good bool, d api.Digest) (string, api.Errno) {
	name := fmt.Sprint(d.Key, " ", d.Size)
	was, there := a.by[name]
	switch {
	case !good:
		return "", api.ErrSign
	case there && was.Root == d.Root:
		return "", api.OK
	case there:
		return refEvidence(was, d), api.ErrFork
	case len(a.order) == 6:
		return "", api.ErrFull
	}
	a.by[name] = d
	a.order = append(a.order, name)
	return "", api.OK
}

func (a *refAuditor) reply(key, m, n int, proof []string) api.Errno {
	old, one := a.by[fmt.Sprint(key, " ", m)]
	now, two := a.by[fmt.Sprint(key, " ", n)]
	if !one || !two || m >= n {
		return api.ErrNone
	}
	// a client that has accepted the one would accept the other with that proof
	e := refAccept(true, &old, now, proof)
	if e == api.OK {
		a.linked[fmt.Sprint(key, " ", m, " ", n)] = true
	}
	return e
}

func (a *refAuditor) pool() []api.Digest {
	var l []api.Digest
	for _, name := range a.order {
		l = append(l, a.by[name])
	}
	return l
}

// Two stories that part behind the fourth entry, each of two keys.
func TestAuditorOfAnything(t *testing.T) {
	chance := rand.New(rand.NewSource(14))
	one := entriesOf(8)
	stories := [][]string{one, append(slices.Clone(one[:4]), hashesOf(4)...)}
	stored, replied := map[api.Errno]int{}, map[api.Errno]int{}
	for range 300 {
		w := ground.New()
		a, ref := NewAuditor(w), refAuditor{by: map[string]api.Digest{}, linked: map[string]bool{}}
		for range 40 {
			key, side, m, n := 6+chance.Intn(2), chance.Intn(2), chance.Intn(9), chance.Intn(9)
			d := signedBy(w, key, n, refRoot(stories[side][:n]))
			good := chance.Intn(8) > 0
			if !good {
				d.Size++
			}
			evidence, want := ref.store(good, d)
			stored[want]++
			if got, err := a.Store(d); got != evidence || wrong(err, want) {
				t.Fatalf("%#v: %x, %v, want %x, %v", d, got, err, evidence, want)
			}
			if chance.Intn(4) > 0 && m > n {
				m, n = n, m
			}
			var proof []string
			if m <= n {
				proof = proofOf(stories[side], m, n)
			}
			if chance.Intn(6) == 0 {
				bends := bendsOf(proof)
				proof = bends[chance.Intn(len(bends))]
			}
			want = ref.reply(key, m, n, proof)
			replied[want]++
			if err := a.Reply(key, m, n, proof); wrong(err, want) {
				t.Fatalf("%d, %d to %d: %v, want %v", key, m, n, err, want)
			}
			if got := a.Pool(); !slices.Equal(got, ref.pool()) {
				t.Fatalf("%#v, want %#v", got, ref.pool())
			}
		}
		for key := 5; key < 9; key++ {
			for m := range 10 {
				for n := range 10 {
					if want := ref.linked[fmt.Sprint(key, " ", m, " ", n)]; a.Linked(key, m, n) != want {
						t.Fatalf("%d, %d to %d: %v", key, m, n, !want)
					}
				}
			}
		}
	}
	for _, e := range []api.Errno{api.OK, api.ErrSign, api.ErrFork, api.ErrFull} {
		if stored[e] < 200 {
			t.Errorf("%v is seldom tried: %v", e, stored)
		}
	}
	for _, e := range []api.Errno{api.OK, api.ErrNone, api.ErrProof} {
		if replied[e] < 200 {
			t.Errorf("%v is seldom tried: %v", e, replied)
		}
	}
}

// P2

func TestPoolIsTheCallers(t *testing.T) {
	w := ground.New()
	all := digestsOf(w, entriesOf(8))
	a := NewAuditor(w)
	for n := range 6 {
		pool := a.Pool()
		again := a.Pool()
		for i, room := 0, pool[:cap(pool)]; i < len(room); i++ {
			room[i] = api.Digest{Key: 9, Sign: "spoilt"}
		}
		if !slices.Equal(a.Pool(), all[:n]) || !slices.Equal(again, all[:n]) {
			t.Errorf("%d: the pool shares memory", n)
		}
		a.Store(all[n])
		if !slices.Equal(again, all[:n]) || !slices.Equal(a.Pool(), all[:n+1]) {
			t.Errorf("%d: the pool shares memory", n)
		}
	}
}

func TestProofsOfAuditorsAreLeftAlone(t *testing.T) {
	w := ground.New()
	l := entriesOf(13)
	all := digestsOf(w, l)
	a := keeping(t, w, all[5], all[13])
	proof := proofOf(l, 5, 13)
	room := append(slices.Clone(proof), "a", "b", "c")
	was := slices.Clone(room)
	given := room[:len(proof)]
	a.Reply(3, 13, 5, given)
	reply(t, a, 3, 5, 13, given)
	if !slices.Equal(room, was) {
		t.Error("a proof or its spare room is written into")
	}
	spoil(room)
	reply(t, a, 3, 5, 13, proof)
}

func TestAuditorsAreApart(t *testing.T) {
	w := ground.New()
	l := entriesOf(6)
	all := digestsOf(w, l)
	a, b := keeping(t, w, all[1], all[2], all[4]), keeping(t, w, all[1], all[2], all[4])
	for _, x := range []*Auditor{a, b} {
		reply(t, x, 3, 1, 2, proofOf(l, 1, 2))
	}
	keys, sizes := []int{3}, []int{1, 2, 4, 5, 6}
	before := kept(b, keys, sizes)
	c := *a
	a.Store(all[5])
	a.Reply(3, 2, 4, proofOf(l, 2, 4))
	if kept(b, keys, sizes) != before {
		t.Error("one auditor changes the other")
	}
	if kept(&c, keys, sizes) != before {
		t.Error("what a copy was copied from reaches into it")
	}
	c.Store(all[6])
	c.Reply(3, 1, 4, proofOf(l, 1, 4))
	if got := a.Pool(); len(got) != 4 || got[3] != all[5] || a.Linked(3, 1, 4) || !a.Linked(3, 2, 4) {
		t.Error("a copy reaches into what it was copied from")
	}
	if got := c.Pool(); len(got) != 4 || got[3] != all[6] || !c.Linked(3, 1, 4) || c.Linked(3, 2, 4) {
		t.Errorf("the copy: %#v", got)
	}
}

// P1

// Whoever is handed in is asked, and nobody else; but size and root are looked at whatever it says.
func TestAuditorsOfAnyChecker(t *testing.T) {
	any := refHash("any")
	a := keeping(t, yes{}, api.Digest{Key: 3, Size: 1, Root: any})
	for _, bad := range []api.Digest{{Key: 3, Size: -1, Root: any}, {Key: 3, Size: math.MinInt, Root: any}, {Key: 3, Size: 1, Root: "x"}, {Key: 3, Size: 1, Root: any + "x"}, {}} {
		refuseStore(t, a, bad, "", api.ErrSign)
	}
	var nobody *ground.Registry
	for _, a := range []*Auditor{NewAuditor(no{}), NewAuditor(nil), NewAuditor(nobody), {}} {
		refuseStore(t, a, api.Digest{Key: 3, Size: 1, Root: any, Sign: "sign0"}, "", api.ErrSign)
		refuseStore(t, a, api.Digest{}, "", api.ErrSign)
		refuseReply(t, a, 3, 1, 2, nil, api.ErrNone)
		if a.Linked(3, 1, 2) || len(a.Pool()) != 0 {
			t.Errorf("%#v", a.Pool())
		}
	}
}

// A signature of up to 255 bytes stands in an evidence. With a longer one there are two stories all the same, but no bytes that would show them.
func TestEvidenceOfLongSignatures(t *testing.T) {
	for _, one := range []int{0, 1, 254, 255, 256, 257, 1000} {
		for _, two := range []int{0, 5, 255, 256, 511, 512} {
			kept := api.Digest{Key: 3, Size: 1, Root: refHash("a"), Sign: strings.Repeat("x", one)}
			other := api.Digest{Key: 3, Size: 1, Root: refHash("b"), Sign: strings.Repeat("y", two)}
			want := ""
			if one < 256 && two < 256 {
				want = refEvidence(kept, other)
			}
			a := keeping(t, yes{}, kept)
			refuseStore(t, a, other, want, api.ErrFork)
			if want == "" {
				continue
			}
			if key, err := Judge(yes{}, want); key != 3 || err != nil {
				t.Errorf("%d, %d: %d, %v", one, two, key, err)
			}
		}
	}
}

func TestAnyAuditsEnd(t *testing.T) {
	roots := []string{"", "x", refHash(""), refHash("") + "x", strings.Repeat("\xff", 255), strings.Repeat("\x00", 256)}
	for _, check := range []api.Checker{yes{}, ground.New()} {
		for _, key := range anyNumbers(3) {
			a := NewAuditor(check)
			for _, n := range anyNumbers(3) {
				for k, root := range roots {
					a.Store(api.Digest{Key: key, Size: n, Root: root, Sign: root + strconv.Itoa(k)})
				}
			}
			for _, m := range anyNumbers(3) {
				for _, n := range anyNumbers(3) {
					for _, proof := range [][]string{nil, {""}, roots, hashesOf(64), hashesOf(200)} {
						a.Reply(key, m, n, proof)
					}
					a.Linked(key, m, n)
				}
			}
		}
	}
}
