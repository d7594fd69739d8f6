package runs

import (
	"slices"
	"sync"

	"runs/sets"
)

// trail is the places of a lasso.
type trail struct {
	places []place
	loop   int
}

func (t trail) first() state {
	return t.places[0].state
}

// lowest is what is found from the lowest first state from which a run goes of which the formula does not hold; false: there is none.
func (w *web) lowest(firsts states) (trail, bool) {
	var searches sync.WaitGroup
	found, nothing := make(chan trail), make(chan state)
	for s := range sets.Members(firsts) {
		searches.Go(func() { w.look(state(s), found, nothing) })
	}
	var out trail
	is := false
	for waiting := firsts; waiting != 0; {
		select {
		case t := <-found:
			waiting = sets.Without(waiting, int(t.first()))
			if !is || t.first() < out.first() {
				out, is = t, true
			}
		case s := <-nothing:
			waiting = sets.Without(waiting, int(s))
		}
	}
	searches.Wait()
	return out, is
}

func (w *web) look(first state, found chan<- trail, nothing chan<- state) {
	s := search{w, map[place]place{}}
	if t, ok := s.trail(first); ok {
		found <- t
	} else {
		nothing <- first
	}
}

type search struct {
	web  *web
	seen map[place]place // each with the one that it was come to from, or itself where the search began
}

// trail goes to the nearest knot, and round in it.
func (s *search) trail(first state) (trail, bool) {
	way := s.way(s.web.begins(first), func(at place) bool { return s.web.knots[at] > 0 })
	if len(way) == 0 {
		return trail{}, false
	}
	loop := len(way) - 1
	return trail{append(way, s.round(way[loop])...), loop}, true
}

// round goes from a place through its knot until every part has been settled, and on to ahead of that place again. A way has no place twice, and there is at most one for each part, one back and one to here: together they are below maxStates.
func (s *search) round(start place) []place {
	var out []place
	said, knot := &s.web.said, s.web.knots[start]
	last, settled := start, said.settled(start)
	for settled != said.allParts() {
		more := s.way(s.web.next[last], func(at place) bool {
			return s.web.knots[at] == knot && said.settled(at)&^settled != 0
		})
		out = append(out, more...)
		last = out[len(out)-1]
		settled |= said.settled(last)
	}
	back := s.way(s.web.next[last], func(at place) bool { return at == start })
	return append(out, back[:len(back)-1]...)
}

// way is a shortest one from one of the places to one that is wanted, with both; none, if there is no such way.
func (s *search) way(from []place, wanted func(at place) bool) []place {
	clear(s.seen)
	for _, at := range from {
		s.seen[at] = at
	}
	for row := slices.Clone(from); len(row) > 0; row = row[1:] {
		at := row[0]
		if wanted(at) {
			return s.wayTo(at)
		}
		for _, next := range s.web.next[at] {
			if _, ok := s.seen[next]; !ok {
				s.seen[next] = at
				row = append(row, next)
			}
		}
	}
	return nil
}

func (s *search) wayTo(at place) []place {
	out := []place{at}
	for s.seen[at] != at {
		at = s.seen[at]
		out = append(out, at)
	}
	slices.Reverse(out)
	return out
}
