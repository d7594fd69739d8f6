package runs

import "runs/sets"

const (
	maxVars   = 3
	maxValue  = 3
	valueBits = 2 // as many as maxValue needs
)

// state holds the values of all variables, the first one's in the highest bits: so states rise as their texts do.
type state uint8

// states is a set of states.
type states uint64

// values is a set of values of one variable.
type values uint8

// names is a set of variables, by their numbers.
type names uint8

func shift(name int) int {
	return valueBits * (maxVars - 1 - name)
}

func (s state) value(name int) int {
	return int(s>>shift(name)) & maxValue
}

func (s state) with(name int, value int) state {
	return s&^(maxValue<<shift(name)) | state(value)<<shift(name)
}

// spread gives the variable every one of the values, in every one of the states.
func spread(in states, name int, to values) states {
	var out states
	for s := range sets.Members(in) {
		for value := range sets.Members(to) {
			out = sets.With(out, int(state(s).with(name, value)))
		}
	}
	return out
}
