// Package play has a store of few slots, and what is let go of.
package play

import (
	"slices"

	"larderwick/api"
)

// Check tells what is wrong with requests of pages, and slots.
func Check(reqs []int, slots int) error {
	if len(reqs) > api.MaxReqs {
		return api.ErrFull
	}
	for _, page := range reqs {
		if page < 0 || page >= api.MaxPages {
			return api.ErrRange
		}
	}
	if slots < 1 || slots > api.MaxSlots {
		return api.ErrRange
	}
	return nil
}

// Run requests, letting go of the pages that are told, one by one, where there is no slot: how often a page was not there, and which are at the end, rising.
func Run(reqs []int, slots int, out []int) (int, []int, error) {
	if err := Check(reqs, slots); err != nil {
		return 0, nil, err
	}
	missed := 0
	var held []int
	for _, page := range reqs {
		if slices.Contains(held, page) {
			continue
		}
		missed++
		if len(held) == slots {
			left, err := letGo(held, out)
			if err != nil {
				return 0, nil, err
			}
			held, out = left, out[1:]
		}
		held = append(held, page)
	}
	slices.Sort(held)
	return missed, held, nil
}

// letGo takes the next page of out away from those that are held; it writes into held, which must be the store's own.
func letGo(held, out []int) ([]int, error) {
	if len(out) == 0 {
		return nil, api.ErrShape
	}
	at := slices.Index(held, out[0])
	if at < 0 {
		return nil, api.ErrNone
	}
	return slices.Delete(held, at, at+1), nil
}
