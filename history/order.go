package history

import (
	"math"
	"slices"

	"hindsight/api"
	"hindsight/fault"
)

// Order: may calls stand in an order, by their places in a list?
func Order(l []Call, order ...int) error {
	if at, e := wrong(l, order); e != api.OK {
		return fault.In(stepOrder, at, e)
	}
	return nil
}

// wrong is the first thing that keeps calls from standing in an order, and where; OK: they may.
func wrong(l []Call, order []int) (int, api.Errno) {
	there := make([]bool, len(l))
	for at, i := range order {
		if i < 0 || i >= len(l) {
			return at, api.ErrRange
		}
		if there[i] {
			return at, api.ErrThere
		}
		there[i] = true
	}
	for i, c := range l {
		if !c.Open() && !there[i] {
			return i, api.ErrNone
		}
	}
	if at, ok := overtaken(l, order); ok {
		return at, api.ErrConflict
	}
	return 0, api.OK
}

// overtaken is the first place of an order whose call stands ahead of one that is ahead of it; false: there is none.
func overtaken(l []Call, order []int) (int, bool) {
	first, found := 0, false
	soonest := math.MaxInt // the first step at which a call behind the place was answered
	for at, i := range slices.Backward(order) {
		if soonest < l[i].From {
			first, found = at, true
		}
		if !l[i].Open() {
			soonest = min(soonest, l[i].To)
		}
	}
	return first, found
}
