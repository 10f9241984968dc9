package forks

import (
	"forks/sha"
	"forks/tree"
)

// Hash tells the SHA-256 of a text (P3).
func Hash(s string) string {
	h := sha.Sum(s)
	return string(h[:])
}

// Root tells a list's root, so many workers at a time (P4).
func Root(l []string, workers int) string { return tree.Root(l, workers) }

// Inclusion and Consistency prove (P5, P6).
func Inclusion(l []string, i int) ([]string, error) { return tree.Inclusion(l, i) }

func Consistency(l []string, m int) ([]string, error) { return tree.Consistency(l, m) }

// Included and Consistent look what a proof shows (P5, P6).
func Included(size, i int, entry string, proof []string, root string) error {
	return tree.Included(size, i, entry, proof, root)
}

func Consistent(m, n int, a, b string, proof []string) error {
	return tree.Consistent(m, n, a, b, proof)
}
