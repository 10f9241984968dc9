package sha

import (
	"crypto/sha256"
	"encoding/hex"
	"strings"
	"testing"
)

func TestKnownSums(t *testing.T) {
	for text, want := range map[string]string{
		"":    "e3b0c44298fc1c149afbf4c8996fb92427ae41e4649b934ca495991b7852b855",
		"abc": "ba7816bf8f01cfea414140de5dae2223b00361a396177a9cb410ff61f20015ad",
		"abcdbcdecdefdefgefghfghighijhijkijkljklmklmnlmnomnopnopq": "248d6a61d20638b8e5c026930c3e6039a33ce45964ff2167f6ecedd419db06c1",
		strings.Repeat("a", 1000000):                               "cdc76e5c9914fb9281a1c7e284d73e67f1809a48a497200e046d39ccc7112cd0",
	} {
		got := Sum(text)
		if hex.EncodeToString(got[:]) != want {
			t.Errorf("a text of %d bytes: %x, want %s", len(text), got, want)
		}
	}
}

// Every place in a block where a text can end, with all bytes in it.
func TestLengths(t *testing.T) {
	var text []byte
	for n := range 1000 {
		if got := Sum(string(text)); got != sha256.Sum256(text) {
			t.Fatalf("%d bytes: %x", n, got)
		}
		text = append(text, byte(n*7+n/256))
	}
}
