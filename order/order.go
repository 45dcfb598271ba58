// Package order has orders of few things.
package order

import (
	"whenstead/api"
	"whenstead/set"
)

// Check tells what is wrong with what stands ahead of what.
func Check(r []int) error {
	_, err := Behind(r)
	return err
}

// Behind tells of each thing all that are behind it.
func Behind(r []int) ([]int, error) {
	if len(r) > api.MaxThings {
		return nil, api.ErrFull
	}
	for _, s := range r {
		if !set.Is(s, len(r)) {
			return nil, api.ErrRange
		}
	}
	behind := set.Reached(r)
	for i, s := range behind {
		if set.Has(s, i) {
			return nil, api.ErrClash
		}
	}
	return behind, nil
}

// Less tells whether a thing is ahead of another one.
func Less(r []int, a, b int) (bool, error) {
	behind, err := Behind(r)
	if err != nil {
		return false, err
	}
	if !set.IsThing(a, len(r)) || !set.IsThing(b, len(r)) {
		return false, api.ErrRange
	}
	return set.Has(behind[a], b), nil
}

// Turned round: what was behind is ahead.
func Turned(r []int) ([]int, error) {
	behind, err := Behind(r)
	if err != nil {
		return nil, err
	}
	ahead := make([]int, len(behind))
	for i, s := range behind {
		for j := range set.Things(s) {
			ahead[j] |= 1 << i
		}
	}
	return ahead, nil
}

// With a step more.
func With(r []int, a, b int) ([]int, error) {
	behind, err := Behind(r)
	if err != nil {
		return nil, err
	}
	if !set.IsThing(a, len(r)) || !set.IsThing(b, len(r)) {
		return nil, api.ErrRange
	}
	behind[a] |= 1 << b
	return Behind(behind)
}
