package tree

import "forks/api"

// Inclusion tells the proof of entry i; ErrArg: there is none.
func Inclusion(l []string, i int) ([]string, error) {
	if i < 0 || i >= len(l) {
		return nil, api.ErrArg
	}
	return texts(inclusion(l, i)), nil
}

func inclusion(l []string, i int) []hash {
	if len(l) == 1 {
		return nil
	}
	k := split(len(l))
	if i < k {
		return append(inclusion(l[:k], i), rootOf(l[k:], 1))
	}
	return append(inclusion(l[k:], i-k), rootOf(l[:k], 1))
}

// Consistency tells the proof that the first m were the list once; ErrArg: m is below 1 or above the number of entries.
func Consistency(l []string, m int) ([]string, error) {
	if m < 1 || m > len(l) {
		return nil, api.ErrArg
	}
	return texts(consistency(l, m, true)), nil
}

// consistency: known: the first m are the whole old list, whose root needs no telling.
func consistency(l []string, m int, known bool) []hash {
	if m == len(l) {
		if known {
			return nil
		}
		return []hash{rootOf(l, 1)}
	}
	k := split(len(l))
	if m <= k {
		return append(consistency(l[:k], m, known), rootOf(l[k:], 1))
	}
	return append(consistency(l[k:], m-k, false), rootOf(l[:k], 1))
}
