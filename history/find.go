package history

import (
	"hindsight/api"
	"hindsight/fault"
)

// MostFind is how many calls a search takes at most.
const MostFind = 12

// mostRoom is how many bytes of states a search remembers at most: a model may have a state of its own for each order.
const mostRoom = 1 << 23

// roomOfPoint is how many bytes a point takes beside its state's, more or less.
const roomOfPoint = 64

// Model says what an ask is answered in a state, and what state comes then.
type Model interface {
	Next(state, ask string) (string, string)
}

// Replay: are calls, in an order, answered as a model says, from a state on?
func Replay(m Model, state string, l []Call, order ...int) error {
	if err := Order(l, order...); err != nil {
		return fault.In(stepReplay, len(order), err)
	}
	for at, i := range order {
		answer, after := m.Next(state, l[i].Ask)
		if !l[i].Open() && answer != l[i].Answer {
			return fault.In(stepReplay, at, api.ErrProof)
		}
		state = after
	}
	return nil
}

// Find: an order in which calls are answered as a model says.
func Find(m Model, state string, l []Call) ([]int, error) {
	if len(l) > MostFind {
		return nil, fault.In(stepFind, len(l), api.ErrBig)
	}
	s := plan(m, l)
	if !s.on(0, state) {
		return nil, fault.In(stepFind, len(l), api.ErrNone)
	}
	return s.order, nil
}

// search looks for an order of calls, call by call; a set of calls is a bit for each place.
type search struct {
	Model
	calls []Call
	ahead []int // of each call, those that are ahead of it
	must  int   // those that aren't open
	order []int // the calls that stand already
	dead  map[point]struct{}
	room  int // how many bytes the dead points take
}

// point is what of the calls that stand matters to the others: which they are, and the state behind them.
type point struct {
	stand int
	state string
}

// plan is a search of which no call stands yet.
func plan(m Model, l []Call) *search {
	s := &search{Model: m, calls: l, ahead: make([]int, len(l)), dead: map[point]struct{}{}}
	for i, c := range l {
		if !c.Open() {
			s.must |= 1 << i
		}
		for k, d := range l {
			if k != i && d.ahead(c) {
				s.ahead[i] |= 1 << k
			}
		}
	}
	return s
}

// on: can the others stand behind those that do?
func (s *search) on(stand int, state string) bool {
	if s.must&^stand == 0 {
		return true
	}
	here := point{stand, state}
	if _, was := s.dead[here]; was {
		return false
	}
	for i := range s.calls {
		if s.may(i, stand) && s.try(i, stand, state) {
			return true
		}
	}
	s.bury(here)
	return false
}

// may: is a call one that doesn't stand yet, and do all that are ahead of it?
func (s *search) may(i, stand int) bool {
	return stand>>i&1 == 0 && s.ahead[i]&^stand == 0
}

// try: can a call stand next, and the others behind it?
func (s *search) try(i, stand int, state string) bool {
	c := s.calls[i]
	answer, after := s.Next(state, c.Ask)
	if !c.Open() && answer != c.Answer {
		return false
	}
	s.order = append(s.order, i)
	if s.on(stand|1<<i, after) {
		return true
	}
	s.order = s.order[:len(s.order)-1]
	return false
}

// bury remembers a point from which no way leads on.
func (s *search) bury(p point) {
	size := len(p.state) + roomOfPoint
	if s.room+size > mostRoom {
		clear(s.dead)
		s.room = 0
	}
	s.dead[p] = struct{}{}
	s.room += size
}
