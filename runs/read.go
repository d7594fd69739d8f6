package runs

import "runs/sets"

const (
	maxModel = 120
	maxRules = 8
)

// modelReader goes over a model's text once. What it takes is always how some model goes on, so where it stops is the place of what is wrong.
type modelReader struct {
	text       string
	at         int
	made       machine
	conditions []condition // these three are of the rule that is read now
	changes    []change
	changed    names
	fault      Errno // the first fault of a text that is else a model
	place      int
}

func readModel(text string) (machine, Errno, int) {
	if len(text) > maxModel {
		return machine{}, ErrLong, 0
	}
	r := modelReader{text: text}
	if !r.model() {
		return machine{}, ErrText, r.at
	}
	return r.made, r.fault, r.place
}

func (r *modelReader) model() bool {
variable:
	if !r.variable() {
		goto wrong
	}
	if r.made.count < maxVars && r.take(',') {
		goto variable
	}
rule:
	if r.at == len(r.text) {
		return true
	}
	if len(r.made.rules) == maxRules || !r.take(';') {
		goto wrong
	}
	if r.take(':') {
		goto change
	}
condition:
	if !r.condition() {
		goto wrong
	}
	if r.take('&') {
		goto condition
	}
	if !r.take(':') {
		goto wrong
	}
change:
	if !r.change() {
		goto wrong
	}
	if r.take(',') {
		goto change
	}
	r.endRule()
	goto rule
wrong:
	return false
}

func (r *modelReader) variable() bool {
	var v variable
	var value int
	var ok bool
	if !r.take('a' + byte(r.made.count)) {
		goto wrong
	}
	if v.greatest, ok = r.digit(1); !ok {
		goto wrong
	}
	if !r.take('=') {
		goto wrong
	}
	if value, ok = r.digit(0); !ok {
		goto wrong
	}
first:
	if value > v.greatest {
		r.blame(ErrValue)
	}
	v.first = sets.With(v.first, value)
	if value, ok = r.digit(value + 1); ok {
		goto first
	}
	r.made.variables[r.made.count] = v
	r.made.count++
	return true
wrong:
	return false
}

func (r *modelReader) condition() bool {
	left, ok := r.term()
	if !ok {
		return false
	}
	compare, ok := r.comparison()
	if !ok {
		return false
	}
	right, ok := r.term()
	if !ok {
		return false
	}
	r.conditions = append(r.conditions, func(s state) bool { return compare(left(s), right(s)) })
	return true
}

func (r *modelReader) comparison() (func(x, y int) bool, bool) {
	switch {
	case r.take('='):
		return func(x, y int) bool { return x == y }, true
	case r.take('#'):
		return func(x, y int) bool { return x != y }, true
	case r.take('<'):
		return func(x, y int) bool { return x < y }, true
	}
	return nil, false
}

func (r *modelReader) term() (term, bool) {
	if value, ok := r.digit(0); ok {
		return func(state) int { return value }, true
	}
	if name, ok := r.name(); ok {
		return func(s state) int { return s.value(name) }, true
	}
	return nil, false
}

func (r *modelReader) change() bool {
	name, ok := r.name()
	if !ok {
		return false
	}
	if sets.Has(r.changed, name) {
		r.blame(ErrTwice)
	}
	r.changed = sets.With(r.changed, name)
	if !r.take('=') {
		return false
	}
	to, ok := r.changeTo(r.made.variables[name].greatest + 1)
	if !ok {
		return false
	}
	r.changes = append(r.changes, func(was state, made states) states { return spread(made, name, to(was)) })
	return true
}

// changeTo reads what a variable of so many values is changed to.
func (r *modelReader) changeTo(count int) (func(was state) values, bool) {
	if r.take('?') {
		return func(state) values { return sets.Below[values](count) }, true
	}
	base, ok := r.term()
	if !ok {
		return nil, false
	}
	more := 0
	if r.take('+') {
		more, ok = r.digit(0)
	}
	return func(was state) values { return sets.With(values(0), (base(was)+more)%count) }, ok
}

func (r *modelReader) endRule() {
	r.made.rules = append(r.made.rules, makeRule(r.conditions, r.changes))
	r.conditions, r.changes, r.changed = nil, nil, 0
}

// name reads a variable's name in a rule, where any name may stand, and blames it if no variable has it.
func (r *modelReader) name() (int, bool) {
	name, ok := r.number('a', 0, maxVars-1)
	if ok && name >= r.made.count {
		r.blame(ErrName)
	}
	return name, ok
}

func (r *modelReader) digit(least int) (int, bool) {
	return r.number('0', least, maxValue)
}

// number takes a byte that is least to most above zero, and tells how much.
func (r *modelReader) number(zero byte, least int, most int) (int, bool) {
	if r.at == len(r.text) {
		return 0, false
	}
	n := int(r.text[r.at]) - int(zero)
	if n < least || n > most {
		return 0, false
	}
	r.at++
	return n, true
}

func (r *modelReader) take(sign byte) bool {
	_, ok := r.number(sign, 0, 0)
	return ok
}

// blame keeps a fault of the byte that was taken last, if it is the first one: it stands only if the rest of the text is a model's.
func (r *modelReader) blame(fault Errno) {
	if r.fault == OK {
		r.fault, r.place = fault, r.at-1
	}
}
