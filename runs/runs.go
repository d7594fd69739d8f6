// Package runs: small machines, what may be said of their runs, and whether it holds of all: see DOC.md.
package runs

// Errno is what a call answers: OK or the reason for a refusal.
type Errno int

const (
	OK        Errno = 0
	ErrLong   Errno = 1  // a text, or a list, above its bound
	ErrText   Errno = 2  // no model, or no formula
	ErrName   Errno = 3  // a name that no variable has
	ErrValue  Errno = 4  // a first value that is too great
	ErrTwice  Errno = 5  // a variable that is changed twice
	ErrNest   Errno = 6  // too many brackets, one in another
	ErrWeight Errno = 7  // a formula that is too heavy
	ErrState  Errno = 8  // no state
	ErrLoop   Errno = 9  // a loop that may not be
	ErrRun    Errno = 10 // no run
)

// Lasso is states without an end: the list, and then again and again from the loop on.
type Lasso struct {
	States []string
	Loop   int
}

// Check tells whether a text is a model (P3).
func Check(model string) (Errno, int) {
	_, errno, at := readModel(model)
	return errno, at
}

// First tells the first states (P4).
func First(model string) ([]string, Errno, int) {
	m, errno, at := readModel(model)
	if errno != OK {
		return nil, errno, at
	}
	return m.texts(m.first()), OK, 0
}

// Next tells the next states (P5).
func Next(model string, state string) ([]string, Errno, int) {
	m, errno, at := readModel(model)
	if errno != OK {
		return nil, errno, at
	}
	s, ok := m.state(state)
	if !ok {
		return nil, ErrState, 0
	}
	return m.texts(m.next(s)), OK, 0
}

// Formula tells whether a text is a formula (P6).
func Formula(model string, formula string) (Errno, int) {
	_, _, errno, at := readBoth(model, formula)
	return errno, at
}

// Holds tells whether a formula holds of a lasso (P7).
func Holds(model string, formula string, l Lasso) (bool, Errno, int) {
	m, said, errno, at := readBoth(model, formula)
	if errno != OK {
		return false, errno, at
	}
	list, errno, at := m.lasso(l)
	if errno != OK {
		return false, errno, at
	}
	return said.holds(list, l.Loop), OK, 0
}

// Run tells whether a lasso is a run (P8).
func Run(model string, l Lasso) (Errno, int) {
	m, errno, at := readModel(model)
	if errno != OK {
		return errno, at
	}
	list, errno, at := m.lasso(l)
	if errno != OK {
		return errno, at
	}
	if number, is := m.stray(list, l.Loop); is {
		return ErrRun, number
	}
	return OK, 0
}

// Decide tells whether a formula holds of every run (P9).
func Decide(model string, formula string) (bool, Lasso, Errno, int) {
	m, said, errno, at := readBoth(model, formula)
	if errno != OK {
		return false, Lasso{}, errno, at
	}
	against, is := makeWeb(m, said).lowest(m.first())
	if !is {
		return true, Lasso{}, OK, 0
	}
	return false, m.write(against), OK, 0
}

func readBoth(model string, formula string) (*machine, saying, Errno, int) {
	m, errno, at := readModel(model)
	if errno != OK {
		return m, saying{}, errno, at
	}
	said, errno, at := readFormula(m, formula)
	return m, said, errno, at
}
