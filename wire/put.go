// Package wire: numbers, texts and lists as bytes.
package wire

const numLen = 8

// PutNum puts a number in eight bytes, the highest first.
func PutNum(b []byte, n int64) []byte {
	for shift := 8 * (numLen - 1); shift >= 0; shift -= 8 {
		b = append(b, byte(n>>shift))
	}
	return b
}

// PutStr puts a text behind its length, which must be below 256.
func PutStr(b []byte, s string) []byte { return append(append(b, byte(len(s))), s...) }

// PutList puts a list of anything behind its number, which must be below 256.
func PutList[T any](b []byte, l []T, put func(b []byte, v T) []byte) []byte {
	b = append(b, byte(len(l)))
	for _, v := range l {
		b = put(b, v)
	}
	return b
}
