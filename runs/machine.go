package runs

import "runs/sets"

// variable is the zero value where a machine has none of that number.
type variable struct {
	greatest int
	first    values
}

// term is the number that a term stands for in a state.
type term func(s state) int

// condition tells whether it holds in a state.
type condition func(s state) bool

// change makes its change in all states that earlier changes of the rule made, by the values as they were.
type change func(was state, made states) states

// rule is the states that it makes of one: none only if its conditions do not hold.
type rule func(was state) states

type machine struct {
	variables [maxVars]variable
	count     int // of variables
	rules     []rule
}

// compare is the condition that a sign makes of the terms on its sides.
func compare(sign byte, left, right term) condition {
	makers := map[byte]func(left, right term) condition{
		'=': term.equals,
		'#': term.differs,
		'<': term.isBelow,
	}
	return makers[sign](left, right)
}

func (x term) equals(y term) condition {
	return func(s state) bool { return x(s) == y(s) }
}

func (x term) differs(y term) condition {
	return func(s state) bool { return x(s) != y(s) }
}

func (x term) isBelow(y term) condition {
	return func(s state) bool { return x(s) < y(s) }
}

func makeRule(conditions []condition, changes []change) rule {
	return func(was state) states {
		for _, holds := range conditions {
			if !holds(was) {
				return 0
			}
		}
		made := sets.With(states(0), int(was))
		for _, do := range changes {
			made = do(was, made)
		}
		return made
	}
}

func (m *machine) first() states {
	all := sets.With(states(0), 0)
	for name, v := range m.variables[:m.count] {
		all = spread(all, name, v.first)
	}
	return all
}

func (m *machine) next(s state) states {
	var all states
	for _, makes := range m.rules {
		all |= makes(s)
	}
	if all == 0 {
		return sets.With(all, int(s))
	}
	return all
}

// reached are the states of all runs.
func (m *machine) reached() states {
	all := m.first()
	for rest := all; rest != 0; {
		var more states
		for s := range sets.Members(rest) {
			more |= m.next(state(s))
		}
		rest = more &^ all
		all |= more
	}
	return all
}

// state reads a state's text; false: it is none of the machine's.
func (m *machine) state(text string) (state, bool) {
	var s state
	if len(text) != m.count {
		return s, false
	}
	for name, v := range m.variables[:m.count] {
		value := int(text[name]) - '0'
		if value < 0 || value > v.greatest {
			return s, false
		}
		s = s.with(name, value)
	}
	return s, true
}

func (m *machine) text(s state) string {
	var digits []byte
	for name := range m.count {
		digits = append(digits, '0'+byte(s.value(name)))
	}
	return string(digits)
}

// texts are the states' texts, rising.
func (m *machine) texts(of states) []string {
	var out []string
	for s := range sets.Members(of) {
		out = append(out, m.text(state(s)))
	}
	return out
}
