// Package sets has sets of a few things.
package sets

import (
	"math/bits"

	"vennhouse/api"
)

// Check tells what is wrong with a set.
func Check(u, s int) error {
	// u goes first: all has a meaning for a right u alone.
	if u < 0 || u > api.MaxThings {
		return api.ErrRange
	}
	if s < 0 || s > all(u) {
		return api.ErrRange
	}
	return nil
}

// Do with two sets.
func Do(what, u, a, b int) (int, error) {
	if err := Check(u, a); err != nil {
		return 0, err
	}
	// Also for Not, which does not use b: it is to be a set even so.
	if err := Check(u, b); err != nil {
		return 0, err
	}
	switch what {
	case api.Union:
		return a | b, nil
	case api.Meet:
		return a & b, nil
	case api.Less:
		return a &^ b, nil
	case api.Not:
		return all(u) &^ a, nil
	}
	return 0, api.ErrRange
}

// Size of a set.
func Size(u, s int) (int, error) {
	if err := Check(u, s); err != nil {
		return 0, err
	}
	return bits.OnesCount(uint(s)), nil
}

// Has it a thing?
func Has(u, s, i int) (bool, error) {
	if err := Check(u, s); err != nil {
		return false, err
	}
	if i < 0 || i >= u {
		return false, api.ErrRange
	}
	return s>>i&1 == 1, nil
}

// all is the set of all u things, and so the greatest number that is a set of these.
func all(u int) int {
	return 1<<u - 1
}
