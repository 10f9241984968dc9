package wire

import (
	"errors"
	"math"
	"slices"
	"strings"
	"testing"

	"forks/api"
)

func TestNumbers(t *testing.T) {
	for _, c := range []struct {
		n    int64
		want string
	}{
		{0, "\x00\x00\x00\x00\x00\x00\x00\x00"}, {-1, "\xff\xff\xff\xff\xff\xff\xff\xff"}, {0x0102030405060708, "\x01\x02\x03\x04\x05\x06\x07\x08"},
		{math.MinInt64, "\x80\x00\x00\x00\x00\x00\x00\x00"}, {math.MaxInt64, "\x7f\xff\xff\xff\xff\xff\xff\xff"},
	} {
		if got := string(PutNum(nil, c.n)); got != c.want {
			t.Errorf("%d: %x", c.n, got)
		}
		if got, err := Read(c.want, (*Reader).Num); got != c.n || err != nil {
			t.Errorf("%x: %d, %v", c.want, got, err)
		}
	}
}

func TestTextsOfAllLengths(t *testing.T) {
	for n := range 256 {
		s := strings.Repeat("x", n)
		bytes := string(PutStr(nil, s))
		if bytes != string([]byte{byte(n)})+s {
			t.Errorf("%d bytes: %x", n, bytes)
		}
		if got, err := Read(bytes, (*Reader).Str); got != s || err != nil {
			t.Errorf("%d bytes: %x, %v", n, got, err)
		}
	}
}

func strs(r *Reader) []string { return List(r, (*Reader).Str) }

func TestListsOfAnything(t *testing.T) {
	for n := range 256 {
		l := slices.Repeat([]string{"ab"}, n)
		bytes := string(PutList(nil, l, PutStr))
		if got, err := Read(bytes, strs); err != nil || !slices.Equal(got, l) {
			t.Errorf("%d: %v, %v", n, got, err)
		}
		if got, err := Read(bytes+"x", strs); got != nil || err != api.ErrForm {
			t.Errorf("%d, and one byte more: %v, %v", n, got, err)
		}
		if got, err := Read(bytes[:len(bytes)-1], strs); got != nil || err != api.ErrForm {
			t.Errorf("%d, and one byte less: %v, %v", n, got, err)
		}
	}
	lists := [][]string{{"a", ""}, nil, {"b"}}
	bytes := string(PutList(nil, lists, func(b []byte, l []string) []byte { return PutList(b, l, PutStr) }))
	if got, err := Read(bytes, func(r *Reader) [][]string { return List(r, strs) }); err != nil || !slices.EqualFunc(got, lists, slices.Equal) {
		t.Errorf("lists of lists: %v, %v", got, err)
	}
}

func TestNumbersThatAreCut(t *testing.T) {
	for n := range 8 {
		if got, err := Read(strings.Repeat("\xff", n), (*Reader).Num); got != 0 || err != api.ErrForm {
			t.Errorf("%d bytes: %d, %v", n, got, err)
		}
	}
}

// What is no fault of the text goes on.
func TestOtherPanicsAreNotCaught(t *testing.T) {
	fault := errors.New("a fault of the program")
	defer func() {
		if got := recover(); got != fault {
			t.Errorf("caught: %v", got)
		}
	}()
	Read("", func(*Reader) int { panic(fault) })
}
