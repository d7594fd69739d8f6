package runs

import (
	"math"
	"slices"

	"runs/sets"
)

// web is the places that the runs of a machine go over, each with those that may come next.
type web struct {
	said  saying
	next  map[place][]place
	knots map[place]int // 0 for a place that is in none
}

func makeWeb(m *machine, said saying) *web {
	w := &web{said, map[place][]place{}, map[place]int{}}
	for s := range sets.Members(m.reached()) {
		for next := range sets.Members(m.next(state(s))) {
			w.join(state(s), state(next))
		}
	}
	w.tie(m.first())
	return w
}

// join goes backward, as each place of the next state has just one of this state ahead of it.
func (w *web) join(s, next state) {
	for _, to := range w.said.places(next) {
		here := w.said.before(s, to)
		w.next[here] = append(w.next[here], to)
	}
}

// begins are the places of a first state where the formula does not hold.
func (w *web) begins(first state) []place {
	return slices.DeleteFunc(w.said.places(first), w.said.whole)
}

// tie finds the knots: places that can all be come to from each other, and among which a run may stay for ever, as every part is settled somewhere among them.
func (w *web) tie(firsts states) {
	t := tying{of: w, numbers: map[place]int{}}
	for s := range sets.Members(firsts) {
		for _, at := range w.begins(state(s)) {
			if _, ok := t.numbers[at]; !ok {
				t.visit(at)
			}
		}
	}
}

func (w *web) isKnot(group []place) bool {
	if len(group) == 1 && !slices.Contains(w.next[group[0]], group[0]) {
		return false
	}
	var settled parts
	for _, at := range group {
		settled |= w.said.settled(at)
	}
	return settled == w.said.allParts()
}

// done is the number of a place whose group is known; it is above all others, so that it is never the lowest.
const done = math.MaxInt

// tying goes over a web once, depth first.
type tying struct {
	of      *web
	numbers map[place]int // in the order in which the places were come to
	open    []place       // those whose group is not yet known, in that order
	knots   int
}

// visit is the lowest number of an open place that can be come to from this one: if that is itself, the open ones from it on are a group.
func (t *tying) visit(at place) int {
	number := len(t.numbers)
	t.numbers[at] = number
	lowest, ahead := number, len(t.open)
	t.open = append(t.open, at)
	for _, next := range t.of.next[at] {
		n, ok := t.numbers[next]
		if !ok {
			n = t.visit(next)
		}
		lowest = min(lowest, n)
	}
	if lowest == number {
		t.end(t.open[ahead:])
		t.open = t.open[:ahead]
	}
	return lowest
}

func (t *tying) end(group []place) {
	knot := 0
	if t.of.isKnot(group) {
		t.knots++
		knot = t.knots
	}
	for _, at := range group {
		t.numbers[at] = done
		t.of.knots[at] = knot
	}
}
