package runs

import (
	"slices"

	"runs/sets"
)

// parts is a set of a formula's parts, by their numbers.
type parts uint8

// place is what a formula is asked of: the state that stands there, and the parts of the formula that hold there.
type place struct {
	state state
	parts parts
}

// formula tells whether it holds at a place.
type formula func(at place) bool

// part is what X, F, G, U, R and W make: whether it holds at a place hangs on the next one, too.
type part struct {
	holds   func(here, next place) bool
	endless bool    // whether it holds where every place leaves it to the next one
	settled formula // where what is said of it does not lean on later places for ever
}

// saying is a whole formula. Each of its parts stands behind those that it is made of.
type saying struct {
	whole formula
	parts []part
}

// build is the formula that a sign makes of those on its sides; where it stands ahead of one, that is the right one.
func (s *saying) build(sign byte, left, right formula) formula {
	makers := map[byte]func(s *saying, left, right formula) formula{
		'!': (*saying).not,
		'&': (*saying).and,
		'|': (*saying).or,
		'X': (*saying).next,
		'F': (*saying).some,
		'G': (*saying).all,
		'U': (*saying).until,
		'R': (*saying).release,
		'W': (*saying).unless,
	}
	return makers[sign](s, left, right)
}

func always(place) bool { return true }

func never(place) bool { return false }

func (s *saying) not(_, f formula) formula {
	return func(at place) bool { return !f(at) }
}

func (s *saying) and(f, g formula) formula {
	return func(at place) bool { return f(at) && g(at) }
}

func (s *saying) or(f, g formula) formula {
	return func(at place) bool { return f(at) || g(at) }
}

func (s *saying) next(_, f formula) formula {
	return s.keep(part{holds: func(_, next place) bool { return f(next) }, settled: always})
}

func (s *saying) some(_, f formula) formula { return s.until(always, f) }

func (s *saying) all(_, f formula) formula { return s.unless(f, never) }

func (s *saying) until(f, g formula) formula { return s.putOff(f, g, false) }

func (s *saying) release(f, g formula) formula { return s.unless(g, s.and(f, g)) }

func (s *saying) unless(f, g formula) formula { return s.putOff(f, g, true) }

// putOff holds where g does; where only f does, it is left to the next place.
func (s *saying) putOff(f, g formula, endless bool) formula {
	var itself formula
	itself = s.keep(part{
		holds:   func(here, next place) bool { return g(here) || f(here) && itself(next) },
		endless: endless,
		settled: func(at place) bool { return itself(at) == endless || g(at) || !f(at) },
	})
	return itself
}

// keep adds a part, and is the formula that asks a place for it.
func (s *saying) keep(p part) formula {
	number := len(s.parts)
	s.parts = append(s.parts, p)
	return func(at place) bool { return sets.Has(at.parts, number) }
}

// holds tells whether it holds of the states without an end that go over the list, and then again and again from the loop on.
func (s *saying) holds(list []state, loop int) bool {
	places := make([]place, len(list))
	for number, at := range list {
		places[number].state = at
	}
	for number, p := range s.parts {
		p.mark(number, places, loop)
	}
	return s.whole(places[0])
}

// mark tells every place whether the part holds there. The first round settles it where the loop begins, and by that the second one everywhere.
func (p part) mark(number int, places []place, loop int) {
	places[loop].mark(number, p.endless)
	for range 2 {
		next := places[loop]
		for at, here := range slices.Backward(places) {
			places[at].mark(number, p.holds(here, next))
			next = places[at]
		}
	}
}

// before is the place of a state ahead of another place: these two settle which parts hold there.
func (s *saying) before(at state, next place) place {
	here := place{state: at}
	for number, p := range s.parts {
		here.mark(number, p.holds(here, next))
	}
	return here
}

// places are those that a state may stand at: one for each way in which a run may go on from it.
func (s *saying) places(at state) []place {
	var out []place
	for held := range 1 << len(s.parts) {
		out = append(out, place{at, parts(held)})
	}
	return out
}

// settled are the parts that are settled at a place.
func (s *saying) settled(at place) parts {
	var out parts
	for number, p := range s.parts {
		if p.settled(at) {
			out = sets.With(out, number)
		}
	}
	return out
}

func (s *saying) allParts() parts {
	return sets.Below[parts](len(s.parts))
}

func (at *place) mark(number int, holds bool) {
	if holds {
		at.parts = sets.With(at.parts, number)
	} else {
		at.parts = sets.Without(at.parts, number)
	}
}
