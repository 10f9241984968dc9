// Package digest: how long a list is and its root, signed.
package digest

import (
	"forks/api"
	"forks/wire"
)

// Sign has a key sign a size and a root of 32 bytes. Who signs is handed in: if that panics, nobody signed this (ErrSign).
func Sign(by api.Signer, key, size int, root string) (d api.Digest, err error) {
	defer func() {
		if recover() != nil {
			d, err = api.Digest{}, api.ErrSign
		}
	}()
	return api.Digest{Key: key, Size: size, Root: root, Sign: by.Sign(key, text(size, root))}, nil
}

// Good: it is a digest, and its key has signed it. Who looks after that is handed in: if that panics, nothing shows that it was signed.
func Good(check api.Checker, d api.Digest) (good bool) {
	defer func() {
		if recover() != nil {
			good = false
		}
	}()
	return d.Size >= 0 && len(d.Root) == api.HashLen && check.Check(d.Key, text(d.Size, d.Root), d.Sign)
}

// text: what is signed. The word ahead keeps it apart from all else that a key may sign.
func text(size int, root string) string {
	b := wire.PutNum(wire.PutStr(nil, "digest"), int64(size))
	return string(wire.PutStr(b, root))
}
