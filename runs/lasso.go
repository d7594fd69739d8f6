package runs

import "runs/sets"

const maxStates = 7000

// lasso reads the states of a lasso's list.
func (m *machine) lasso(l Lasso) ([]state, Errno, int) {
	if len(l.States) > maxStates {
		return nil, ErrLong, 0
	}
	list := make([]state, len(l.States))
	for number, text := range l.States {
		s, ok := m.state(text)
		if !ok {
			return nil, ErrState, number
		}
		list[number] = s
	}
	if l.Loop < 0 || l.Loop >= len(list) {
		return nil, ErrLoop, 0
	}
	return list, OK, 0
}

// stray is the number of the first state that may not stand where it does, the loop's counted once more behind the last; false: there is none.
func (m *machine) stray(list []state, loop int) (int, bool) {
	may := m.first()
	for number, s := range append(list, list[loop]) {
		if !sets.Has(may, int(s)) {
			return number, true
		}
		may = m.next(s)
	}
	return 0, false
}

// write tells the states of a trail.
func (m *machine) write(t trail) Lasso {
	l := Lasso{Loop: t.loop}
	for _, at := range t.places {
		l.States = append(l.States, m.text(at.state))
	}
	return l
}
