package runs

import "strings"

// reader goes over a text once. What it takes is always how some text of its kind goes on, so where it stops is the place of what is wrong.
type reader struct {
	text  string
	at    int
	of    *machine // whose names may stand in the text
	fault Errno    // the first fault of a text that has the right form
	place int
}

func (r *reader) condition() (condition, bool) {
	left, ok := r.term()
	if !ok {
		return nil, false
	}
	sign, ok := r.oneOf("=#<")
	if !ok {
		return nil, false
	}
	right, ok := r.term()
	if !ok {
		return nil, false
	}
	return compare(sign, left, right), true
}

func (r *reader) term() (term, bool) {
	if value, ok := r.digit(0); ok {
		return func(state) int { return value }, true
	}
	if name, ok := r.name(); ok {
		return func(s state) int { return s.value(name) }, true
	}
	return nil, false
}

// name reads a name where any may stand, and blames it if no variable has it.
func (r *reader) name() (int, bool) {
	name, ok := r.number('a', 0, maxVars-1)
	if ok && name >= r.of.count {
		r.blame(ErrName)
	}
	return name, ok
}

func (r *reader) digit(least int) (int, bool) {
	return r.number('0', least, maxValue)
}

// number takes a byte that is least to most above zero, and tells how much.
func (r *reader) number(zero byte, least int, most int) (int, bool) {
	if r.atEnd() {
		return 0, false
	}
	n := int(r.text[r.at]) - int(zero)
	if n < least || n > most {
		return 0, false
	}
	r.at++
	return n, true
}

func (r *reader) take(sign byte) bool {
	_, ok := r.number(sign, 0, 0)
	return ok
}

// oneOf takes a byte that is one of the signs, and tells which.
func (r *reader) oneOf(signs string) (byte, bool) {
	if r.atEnd() || strings.IndexByte(signs, r.text[r.at]) < 0 {
		return 0, false
	}
	r.at++
	return r.text[r.at-1], true
}

func (r *reader) atEnd() bool {
	return r.at == len(r.text)
}

// blame keeps a fault of the byte that was taken last, if it is the first one: it stands only if the rest of the text has the right form.
func (r *reader) blame(fault Errno) {
	if r.fault == OK {
		r.fault, r.place = fault, r.at-1
	}
}
