package wire

import (
	"strings"

	"forks/api"
)

// Reader holds what is left of a text. What may not be read is thrown, as api.ErrForm: so whoever reads need not ask after each byte whether there was one.
type Reader struct{ rest string }

// Read reads a whole text; here, and nowhere else, what is thrown on the way is caught. What was read ahead of that is not told.
func Read[T any](s string, read func(r *Reader) T) (v T, err error) {
	defer func() {
		switch x := recover().(type) {
		case nil:
		case api.Errno:
			err = x
		default:
			panic(x)
		}
	}()
	r := &Reader{rest: s}
	all := read(r)
	r.end()
	return all, nil
}

// Byte reads one byte.
func (r *Reader) Byte() byte { return r.take(1)[0] }

// Num reads a number in eight bytes, the highest first.
func (r *Reader) Num() int64 {
	var n uint64
	for _, c := range []byte(r.take(numLen)) {
		n = n<<8 | uint64(c)
	}
	return int64(n)
}

// Str reads a text behind its length. It is a copy: who keeps it does not keep the whole text.
func (r *Reader) Str() string { return strings.Clone(r.take(int(r.Byte()))) }

// List reads a list of anything behind its number; of none: nil.
func List[T any](r *Reader, read func(r *Reader) T) []T {
	var l []T
	for range r.Byte() {
		l = append(l, read(r))
	}
	return l
}

func (r *Reader) take(n int) string {
	if n > len(r.rest) {
		panic(api.ErrForm)
	}
	s := r.rest[:n]
	r.rest = r.rest[n:]
	return s
}

func (r *Reader) end() {
	if r.rest != "" {
		panic(api.ErrForm)
	}
}
