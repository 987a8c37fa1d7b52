// Package vector: vectors: see ../shared/doc/01-vector.md.
package vector

import (
	"strconv"
	"strings"

	"causeway/api"
)

// Check a vector.
func Check(v []int) error {
	if len(v) < 1 || len(v) > api.MaxPlaces {
		return api.ErrShape
	}
	for _, t := range v {
		if t < 0 || t > api.MaxTime {
			return api.ErrBound
		}
	}
	return nil
}

// Least of two.
func Least(a, b []int) ([]int, error) {
	return combine(a, b, func(x, y int) int { return min(x, y) })
}

// Most of two.
func Most(a, b []int) ([]int, error) {
	return combine(a, b, func(x, y int) int { return max(x, y) })
}

// Within another one?
func Within(a, b []int) (bool, error) {
	if err := checkPair(a, b); err != nil {
		return false, err
	}
	return within(a, b), nil
}

// Order of two.
func Order(a, b []int) (int, error) {
	if err := checkPair(a, b); err != nil {
		return 0, err
	}
	below, above := within(a, b), within(b, a)
	switch {
	case below && above:
		return 0, nil
	case below:
		return -1, nil
	case above:
		return 1, nil
	}
	return 2, nil
}

// Weight of a vector.
func Weight(v []int) (int, error) {
	if err := Check(v); err != nil {
		return 0, err
	}
	return weigh(v), nil
}

// Ahead of another one?
func Ahead(v []int, p int, w []int, q int) (bool, error) {
	if err := checkPair(v, w); err != nil {
		return false, err
	}
	if !hasPlace(v, p) || !hasPlace(w, q) {
		return false, api.ErrBound
	}
	if a, b := weigh(v), weigh(w); a != b {
		return a < b, nil
	}
	if p != q {
		return p < q, nil
	}
	return v[p] < w[p], nil
}

// Text of a vector.
func Text(v []int) (string, error) {
	if err := Check(v); err != nil {
		return "", err
	}
	parts := make([]string, len(v))
	for i, t := range v {
		parts[i] = strconv.Itoa(t)
	}
	return strings.Join(parts, "."), nil
}

// Read a vector.
func Read(s string) ([]int, error) {
	// One part too many is enough to tell that s is none, however long it is.
	parts := strings.SplitN(s, ".", api.MaxPlaces+1)
	v := make([]int, len(parts))
	for i, part := range parts {
		t, err := strconv.Atoi(part)
		if err != nil {
			return nil, api.ErrText
		}
		v[i] = t
	}
	// Atoi also takes signs and needless zeros, which Text never writes.
	if back, err := Text(v); err != nil || back != s {
		return nil, api.ErrText
	}
	return v, nil
}

func checkPair(a, b []int) error {
	if err := Check(a); err != nil {
		return err
	}
	if err := Check(b); err != nil {
		return err
	}
	if len(a) != len(b) {
		return api.ErrShape
	}
	return nil
}

// combine makes a vector of two, time by time.
func combine(a, b []int, choose func(x, y int) int) ([]int, error) {
	if err := checkPair(a, b); err != nil {
		return nil, err
	}
	out := make([]int, len(a))
	for i := range a {
		out[i] = choose(a[i], b[i])
	}
	return out, nil
}

// always holds two vectors of one length against each other, time by time.
func always(a, b []int, holds func(x, y int) bool) bool {
	for i := range a {
		if !holds(a[i], b[i]) {
			return false
		}
	}
	return true
}

func within(a, b []int) bool {
	return always(a, b, func(x, y int) bool { return x <= y })
}

// weigh cannot run over: MaxPlaces times of at most MaxTime fit an int.
func weigh(v []int) int {
	sum := 0
	for _, t := range v {
		sum += t
	}
	return sum
}

func hasPlace(v []int, p int) bool {
	return p >= 0 && p < len(v)
}
