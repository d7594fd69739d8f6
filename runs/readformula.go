package runs

import "strings"

const (
	maxFormula = 60
	maxNest    = 10
	maxWeight  = 4
)

// The operators, those that bind closest first.
const (
	aheads = "!XFG"
	pairs  = "URW"
	ands   = "&"
	ors    = "|"
)

// waiting is an operator or a bracket whose right side is still to be read.
type waiting struct {
	sign byte
	left formula // of an operator that stands between two
}

type formulaReader struct {
	reader
	made  saying
	waits []waiting // the innermost last
	open  int       // brackets
	deep  int       // the place of the first bracket too many: never 0, as others stand ahead of it
}

func readFormula(of *machine, text string) (saying, Errno, int) {
	if len(text) > maxFormula {
		return saying{}, ErrLong, 0
	}
	r := formulaReader{reader: reader{text: text, of: of}}
	switch {
	case !r.formula():
		return saying{}, ErrText, r.at
	case r.deep > 0:
		return saying{}, ErrNest, r.deep
	case r.fault != OK:
		return saying{}, r.fault, r.place
	case len(r.made.parts) > maxWeight:
		return saying{}, ErrWeight, 0
	}
	return r.made, OK, 0
}

func (r *formulaReader) formula() bool {
	var f formula
	var sign byte
	var ok bool
one:
	if r.opens() {
		goto one
	}
	if sign, ok = r.oneOf(aheads); ok {
		goto wait
	}
	if f, ok = r.plain(); !ok {
		goto wrong
	}
behindOne:
	f = r.end(aheads, f)
	if r.waitsFor(pairs) {
		goto behindPair
	}
	if sign, ok = r.oneOf(pairs); ok {
		goto wait
	}
behindPair:
	f = r.end(pairs, f)
	if sign, ok = r.oneOf(ands); ok {
		goto wait
	}
	f = r.end(ands, f)
	if sign, ok = r.oneOf(ors); ok {
		goto wait
	}
	f = r.end(ors, f)
	if r.closes() {
		goto behindOne
	}
	if r.open > 0 || !r.atEnd() {
		goto wrong
	}
	r.made.whole = f
	return true
wait:
	r.waits = append(r.waits, waiting{sign, f})
	goto one
wrong:
	return false
}

// plain reads what has no formula within it.
func (r *formulaReader) plain() (formula, bool) {
	if r.take('T') {
		return always, true
	}
	c, ok := r.condition()
	return func(at place) bool { return c(at.state) }, ok
}

func (r *formulaReader) opens() bool {
	if !r.take('(') {
		return false
	}
	r.waits = append(r.waits, waiting{sign: '('})
	r.open++
	if r.open > maxNest && r.deep == 0 {
		r.deep = r.at - 1
	}
	return true
}

// closes takes the bracket that ends the innermost open one; all operators within must have ended.
func (r *formulaReader) closes() bool {
	if r.open == 0 || !r.take(')') {
		return false
	}
	r.waits = r.waits[:len(r.waits)-1]
	r.open--
	return true
}

func (r *formulaReader) waitsFor(signs string) bool {
	last := len(r.waits) - 1
	return last >= 0 && strings.IndexByte(signs, r.waits[last].sign) >= 0
}

// end gives the innermost operators of these signs their right side, and is what they make of it.
func (r *formulaReader) end(signs string, f formula) formula {
	for r.waitsFor(signs) {
		last := len(r.waits) - 1
		f = r.made.build(r.waits[last].sign, r.waits[last].left, f)
		r.waits = r.waits[:last]
	}
	return f
}
