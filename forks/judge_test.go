package forks

import (
	"cmp"
	"encoding/binary"
	"fmt"
	"math"
	"math/rand"
	"slices"
	"strconv"
	"strings"
	"testing"

	"forks/api"
	"forks/ground"
)

// judged: what must be told of an evidence (api.OK: that it is this key's).
func judged(t *testing.T, check api.Checker, evidence string, key int, want api.Errno) {
	t.Helper()
	if got, err := Judge(check, evidence); got != key || wrong(err, want) {
		t.Errorf("%x: %d, %v, want %d, %v", evidence, got, err, key, want)
	}
}

// refRead takes a digest from the front of a text, as P12 says.
func refRead(s string) (d api.Digest, rest string, ok bool) {
	if len(s) < 17 {
		return d, "", false
	}
	d.Key, d.Size = int(binary.BigEndian.Uint64([]byte(s[:8]))), int(binary.BigEndian.Uint64([]byte(s[8:16])))
	root := int(s[16])
	if root > 32 || len(s) < 17+root+1 {
		return d, "", false
	}
	sign := int(s[17+root])
	if len(s) < 17+root+1+sign {
		return d, "", false
	}
	d.Root, d.Sign = s[17:17+root], s[17+root+1:17+root+1+sign]
	return d, s[17+root+1+sign:], true
}

// refJudge is P12 written out anew.
func refJudge(w *ground.Registry, evidence string) (int, api.Errno) {
	body, ok := strings.CutPrefix(evidence, "\x04fork\x02")
	if !ok {
		return 0, api.ErrForm
	}
	a, rest, ok := refRead(body)
	if !ok {
		return 0, api.ErrForm
	}
	b, rest, ok := refRead(rest)
	if !ok || rest != "" {
		return 0, api.ErrForm
	}
	for _, d := range []api.Digest{a, b} {
		if d.Size < 0 || len(d.Root) != 32 || !w.Check(d.Key, signText(d.Size, d.Root), d.Sign) {
			return 0, api.ErrSign
		}
	}
	if a.Key == b.Key && a.Size == b.Size && a.Root != b.Root {
		return a.Key, api.OK
	}
	return 0, api.ErrProof
}

// P12

func TestJudge(t *testing.T) {
	for _, key := range []int{3, 0, 1, -1, 258, 1 << 40, math.MinInt, math.MaxInt} {
		for _, size := range append(hugeSizes(), 0, 1, 64, 65) {
			w := ground.New()
			a, b := signedBy(w, key, size, refHash("a")), signedBy(w, key, size, refHash("b"))
			judged(t, w, refEvidence(a, b), key, api.OK)
			judged(t, w, refEvidence(b, a), key, api.OK)
			judged(t, ground.New(), refEvidence(a, b), 0, api.ErrSign)
			e, err := keeping(t, w, a).Store(b)
			if wrong(err, api.ErrFork) {
				t.Error(err)
			}
			judged(t, w, e, key, api.OK)
		}
	}
}

func TestJudgeOfNoEvidence(t *testing.T) {
	w := ground.New()
	a, b := signed(w, 2, refHash("a")), signed(w, 2, refHash("b"))
	e := refEvidence(a, b)
	judged(t, w, "", 0, api.ErrForm)
	for n := range len(e) {
		judged(t, w, e[:n], 0, api.ErrForm)
		if n > 0 {
			judged(t, w, e[n:], 0, api.ErrForm)
		}
	}
	for _, more := range []string{"\x00", "x", e, refDigest(a)} {
		judged(t, w, e+more, 0, api.ErrForm)
		judged(t, w, more+e, 0, api.ErrForm)
	}
	two := refDigest(a) + refDigest(b)
	for _, word := range []string{"", "Fork", "fort", "for", "forks", "digest", "fork\x02"} {
		judged(t, w, string([]byte{byte(len(word))})+word+"\x02"+two, 0, api.ErrForm)
	}
	for n, body := range []string{"", refDigest(a), "", two + refDigest(signed(w, 2, refHash("c"))), two + two} {
		if n == 2 {
			continue
		}
		judged(t, w, "\x04fork"+string([]byte{byte(n)})+body, 0, api.ErrForm)
		judged(t, w, "\x04fork"+string([]byte{byte(n)})+two, 0, api.ErrForm)
		judged(t, w, "\x04fork\x02"+body, 0, api.ErrForm)
	}
	judged(t, w, "fork\x02"+two, 0, api.ErrForm)
	judged(t, w, "\x04fork"+two, 0, api.ErrForm)
	judged(t, w, two, 0, api.ErrForm)
	judged(t, w, coded(t, create("t", "n")), 0, api.ErrForm)
	judged(t, w, signText(2, a.Root), 0, api.ErrForm)
	judged(t, w, "\x04fork\xff"+strings.Repeat("\x00", 255*18), 0, api.ErrForm)
	judged(t, w, "\x04fork\xff"+strings.Repeat("\xff", 100000), 0, api.ErrForm)
}

// Roots of up to 32 bytes may stand there, and any signature; but a shorter root is not good.
func TestJudgeOfAnyLengths(t *testing.T) {
	w := ground.New()
	good := signed(w, 2, refHash("good"))
	for n := range 256 {
		root := strings.Repeat("r", n)
		want, easy, key := api.ErrSign, api.ErrSign, 0
		switch {
		case n > 32:
			want, easy = api.ErrForm, api.ErrForm
		case n == 32:
			want, easy, key = api.OK, api.OK, 3
		}
		d := signed(w, 2, root)
		judged(t, w, refEvidence(good, d), key, want)
		judged(t, w, refEvidence(d, good), key, want)
		judged(t, yes{}, refEvidence(d, good), key, easy)
		judged(t, yes{}, refEvidence(good, d), key, easy)

		long := api.Digest{Key: 3, Size: 2, Root: refHash("long"), Sign: strings.Repeat("s", n)}
		judged(t, w, refEvidence(good, long), 0, api.ErrSign)
		judged(t, w, refEvidence(long, good), 0, api.ErrSign)
		judged(t, yes{}, refEvidence(long, good), 3, api.OK)
		judged(t, yes{}, refEvidence(good, long), 3, api.OK)
	}
}

func TestJudgeOfWhatIsNotGood(t *testing.T) {
	w := ground.New()
	a, b := signed(w, 4, refHash("a")), signed(w, 4, refHash("b"))
	for _, d := range notGood(w, a) {
		want := api.ErrSign
		if len(d.Root) > 32 {
			want = api.ErrForm
		}
		judged(t, w, refEvidence(d, b), 0, want)
		judged(t, w, refEvidence(b, d), 0, want)
		judged(t, w, refEvidence(d, a), 0, want) // ahead of: their roots are the same
		judged(t, w, refEvidence(a, d), 0, want)
		judged(t, w, refEvidence(d, d), 0, want)
	}
	for _, size := range []int{-1, math.MinInt} {
		x, y := signed(w, size, refHash("a")), signed(w, size, refHash("b"))
		judged(t, w, refEvidence(x, y), 0, api.ErrSign)
		judged(t, yes{}, refEvidence(x, y), 0, api.ErrSign)
	}
}

func TestJudgeOfOneStory(t *testing.T) {
	w := ground.New()
	a := signed(w, 4, refHash("a"))
	others := []api.Digest{a, signed(w, 4, a.Root), signed(w, 3, a.Root), signed(w, 5, a.Root), signed(w, 5, refHash("b")), signed(w, 4+1<<32, refHash("b")), signed(w, 0, refHash("b")), signed(w, math.MaxInt, refHash("b"))}
	others = append(others, otherKeys(w, a)...)
	for _, d := range otherKeys(w, a) {
		others = append(others, signedBy(w, d.Key, 4, refHash("b")), signedBy(w, d.Key, 5, refHash("b")))
	}
	for _, d := range others {
		judged(t, w, refEvidence(a, d), 0, api.ErrProof)
		judged(t, w, refEvidence(d, a), 0, api.ErrProof)
	}
}

// Whatever is written over a byte of an evidence, it is none any more.
func TestJudgeOfSpoiltEvidence(t *testing.T) {
	w := ground.New()
	e := refEvidence(signed(w, 2, refHash("a")), signed(w, 2, refHash("b")))
	judged(t, w, e, 3, api.OK)
	for i := range len(e) {
		for c := range 256 {
			b := []byte(e)
			if b[i] == byte(c) {
				continue
			}
			b[i] = byte(c)
			if _, want := refJudge(w, string(b)); want == api.OK {
				t.Fatalf("byte %d as %d", i, c)
			} else {
				judged(t, w, string(b), 0, want)
			}
		}
	}
}

func TestJudgeOfAnything(t *testing.T) {
	chance := rand.New(rand.NewSource(15))
	seen := map[api.Errno]int{}
	for range 500 {
		w := ground.New()
		var l []api.Digest
		for range 6 {
			l = append(l, signedBy(w, chance.Intn(2), chance.Intn(2), refHash(strconv.Itoa(chance.Intn(3)))))
		}
		for range 30 {
			a, b := l[chance.Intn(6)], l[chance.Intn(6)]
			switch chance.Intn(10) {
			case 0:
				a.Size = chance.Intn(3) - 1
			case 1:
				b.Key = chance.Intn(3) - 1
			case 2:
				b.Sign = a.Sign
			case 3:
				a.Root = b.Root[:chance.Intn(33)]
			}
			e := []byte(refEvidence(a, b))
			switch chance.Intn(8) {
			case 0:
				e[chance.Intn(len(e))] = byte(chance.Intn(256))
			case 1:
				at := chance.Intn(len(e))
				e = slices.Delete(e, at, min(len(e), at+1+chance.Intn(20)))
			case 2:
				e = slices.Insert(e, chance.Intn(len(e)), byte(chance.Intn(256)))
			}
			key, want := refJudge(w, string(e))
			seen[want]++
			judged(t, w, string(e), key, want)
		}
	}
	for _, e := range []api.Errno{api.OK, api.ErrForm, api.ErrSign, api.ErrProof} {
		if seen[e] < 500 {
			t.Errorf("%v is seldom tried: %v", e, seen)
		}
	}
}

// Two lists under one key: from where they part on, whoever stores both finds out, and anybody can judge.
func TestTwoStoriesAreFound(t *testing.T) {
	w := ground.New()
	one, _ := servedBy(t, w, 6)
	two, _ := servedBy(t, w, 3)
	for k := range 3 {
		if _, err := two.Commit(coded(t, insert("u", k))); err != nil {
			t.Fatal(err)
		}
	}
	for n := range 7 {
		a, _ := one.Digest(n)
		b, _ := two.Digest(n)
		for _, pair := range [][]api.Digest{{a, b}, {b, a}} {
			e, err := keeping(t, w, pair[0]).Store(pair[1])
			if n <= 3 {
				if e != "" || err != nil {
					t.Errorf("%d: %x, %v", n, e, err)
				}
				judged(t, w, refEvidence(pair[0], pair[1]), 0, api.ErrProof)
				continue
			}
			if e == "" || wrong(err, api.ErrFork) {
				t.Errorf("%d: %x, %v", n, e, err)
			}
			judged(t, w, e, 3, api.OK)
		}
	}
}

// tellAll: what a server tells while it takes three entries, is asked for digests and is given what it can't commit.
func tellAll(t *testing.T, s *Server) []api.Digest {
	t.Helper()
	var told []api.Digest
	tell := func(d api.Digest, err error) {
		if err == nil {
			told = append(told, d)
		}
	}
	for k := range 3 {
		tell(s.Commit(entry(t, k)))
		tell(s.Commit(entry(t, k) + "x"))
		tell(s.Commit(coded(t, insert("v", 1))))
		tell(s.Digest(k))
		tell(s.Digest(k + 1))
		tell(s.Digest(k + 2))
	}
	return told
}

// different: each of a list once, rising.
func different[T cmp.Ordered](l []api.Digest, of func(d api.Digest) T) []T {
	var all []T
	for _, d := range l {
		all = append(all, of(d))
	}
	slices.Sort(all)
	return slices.Compact(all)
}

// goodOnes: of all that can be put together from keys, sizes, roots and signatures that were told, what is good.
func goodOnes(w api.Checker, told []api.Digest) []api.Digest {
	var l []api.Digest
	for _, key := range different(told, func(d api.Digest) int { return d.Key }) {
		for _, size := range different(told, func(d api.Digest) int { return d.Size }) {
			for _, root := range different(told, func(d api.Digest) string { return d.Root }) {
				for _, sign := range different(told, func(d api.Digest) string { return d.Sign }) {
					d := api.Digest{Key: key, Size: size, Root: root, Sign: sign}
					if _, err := NewAuditor(w).Store(d); err == nil {
						l = append(l, d)
					}
				}
			}
		}
	}
	return l
}

// Whatever is put together from what was signed: none of it shows two stories of a server that has but one, though another key, which signs its digests too, has two.
func TestAServerWithOneStoryIsNeverFound(t *testing.T) {
	w := &scribe{}
	told := tellAll(t, NewServer(w, 3))
	for _, text := range w.wrote {
		if !strings.HasPrefix(text, "3 \x06digest") {
			t.Errorf("the server has signed %q", text)
		}
	}
	for _, d := range slices.Clone(told) {
		told = append(told, signedBy(w, 4, d.Size, d.Root), signedBy(w, 4, d.Size, refHash("other")))
	}
	good := goodOnes(w, told)
	found := map[int]int{}
	for _, a := range good {
		for _, b := range good {
			if key, err := Judge(w, refEvidence(a, b)); err == nil {
				found[key]++
			}
		}
	}
	if found[3] != 0 || found[4] == 0 || len(found) != 1 {
		t.Errorf("found: %v", found)
	}
	if own := slices.DeleteFunc(good, func(d api.Digest) bool { return d.Key != 3 }); len(own) != 4 {
		t.Errorf("%d digests of the server: %v", len(own), own)
	}
}

// P1

func TestJudgesOfAnyKind(t *testing.T) {
	a := api.Digest{Key: 3, Size: 1, Root: refHash("a"), Sign: "sign0"}
	b := api.Digest{Key: 3, Size: 1, Root: refHash("b"), Sign: "sign1"}
	judged(t, yes{}, refEvidence(a, b), 3, api.OK)
	judged(t, yes{}, refEvidence(a, a), 0, api.ErrProof)
	var nobody *ground.Registry
	for _, check := range []api.Checker{no{}, nil, nobody} {
		judged(t, check, refEvidence(a, b), 0, api.ErrSign)
		judged(t, check, refEvidence(a, a), 0, api.ErrSign)
		judged(t, check, "", 0, api.ErrForm)
		judged(t, check, refEvidence(a, b)+"x", 0, api.ErrForm)
	}
}

// halves looks after signatures of one digest only.
type halves struct{ sign string }

func (h halves) Check(key int, text, sign string) bool { return sign == h.sign }

func TestJudgeAsksForBoth(t *testing.T) {
	a := api.Digest{Key: 3, Size: 1, Root: refHash("a"), Sign: "one"}
	b := api.Digest{Key: 3, Size: 1, Root: refHash("b"), Sign: "two"}
	for _, sign := range []string{"one", "two", "three"} {
		judged(t, halves{sign}, refEvidence(a, b), 0, api.ErrSign)
		judged(t, halves{sign}, refEvidence(b, a), 0, api.ErrSign)
	}
}

func FuzzJudge(f *testing.F) {
	w := ground.New()
	for k := range 3 {
		f.Add(refEvidence(signed(w, 1, refHash(fmt.Sprint(k))), signed(w, 1, refHash("b"))))
	}
	f.Add("")
	f.Add("\x04fork\x02")
	f.Fuzz(func(t *testing.T, e string) {
		key, want := refJudge(w, e)
		judged(t, w, e, key, want)
	})
}
