package runs

import "runs/sets"

const (
	maxModel = 120
	maxRules = 8
)

type modelReader struct {
	reader
	conditions []condition // these three are of the rule that is read now
	changes    []change
	changed    names
}

func readModel(text string) (*machine, Errno, int) {
	if len(text) > maxModel {
		return nil, ErrLong, 0
	}
	r := modelReader{reader: reader{text: text, of: &machine{}}}
	if !r.model() {
		return nil, ErrText, r.at
	}
	return r.of, r.fault, r.place
}

func (r *modelReader) model() bool {
variable:
	if !r.variable() {
		goto wrong
	}
	if r.of.count < maxVars && r.take(',') {
		goto variable
	}
rule:
	if r.atEnd() {
		return true
	}
	if len(r.of.rules) == maxRules || !r.take(';') {
		goto wrong
	}
	if r.take(':') {
		goto change
	}
condition:
	if !r.ruleCondition() {
		goto wrong
	}
	if r.take('&') {
		goto condition
	}
	if !r.take(':') {
		goto wrong
	}
change:
	if !r.change() {
		goto wrong
	}
	if r.take(',') {
		goto change
	}
	r.endRule()
	goto rule
wrong:
	return false
}

func (r *modelReader) variable() bool {
	var v variable
	var value int
	var ok bool
	if !r.take('a' + byte(r.of.count)) {
		goto wrong
	}
	if v.greatest, ok = r.digit(1); !ok {
		goto wrong
	}
	if !r.take('=') {
		goto wrong
	}
	if value, ok = r.digit(0); !ok {
		goto wrong
	}
first:
	if value > v.greatest {
		r.blame(ErrValue)
	}
	v.first = sets.With(v.first, value)
	if value, ok = r.digit(value + 1); ok {
		goto first
	}
	r.of.variables[r.of.count] = v
	r.of.count++
	return true
wrong:
	return false
}

func (r *modelReader) ruleCondition() bool {
	c, ok := r.condition()
	r.conditions = append(r.conditions, c)
	return ok
}

func (r *modelReader) change() bool {
	name, ok := r.name()
	if !ok {
		return false
	}
	if sets.Has(r.changed, name) {
		r.blame(ErrTwice)
	}
	r.changed = sets.With(r.changed, name)
	if !r.take('=') {
		return false
	}
	to, ok := r.changeTo(r.of.variables[name].greatest + 1)
	if !ok {
		return false
	}
	r.changes = append(r.changes, func(was state, made states) states { return spread(made, name, to(was)) })
	return true
}

// changeTo reads what a variable of so many values is changed to.
func (r *modelReader) changeTo(count int) (func(was state) values, bool) {
	if r.take('?') {
		return func(state) values { return sets.Below[values](count) }, true
	}
	base, ok := r.term()
	if !ok {
		return nil, false
	}
	more := 0
	if r.take('+') {
		more, ok = r.digit(0)
	}
	return func(was state) values { return sets.With(values(0), (base(was)+more)%count) }, ok
}

func (r *modelReader) endRule() {
	r.of.rules = append(r.of.rules, makeRule(r.conditions, r.changes))
	r.conditions, r.changes, r.changed = nil, nil, 0
}
