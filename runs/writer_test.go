package runs_test

import (
	"math/rand"
	"strings"

	"runs/runs"
)

// writer writes models, formulas and lassos, always the same ones in the same order. A loose one takes any names, first values and changes: what it writes has faults, but is never ErrText's.
type writer struct {
	dice  *rand.Rand
	loose bool
}

func newWriter(loose bool) writer {
	return writer{rand.New(rand.NewSource(7)), loose}
}

func (w writer) pick(from string) string {
	i := w.dice.Intn(len(from))
	return from[i : i+1]
}

func (w writer) variable(name string) string {
	greatest := w.pick("123")
	most := greatest
	if w.loose && w.dice.Intn(4) == 0 {
		most = "3"
	}
	first := ""
	for first == "" {
		for d := "0"; d <= most; d = string(rune(d[0] + 1)) {
			if w.dice.Intn(2) == 0 {
				first += d
			}
		}
	}
	return name + greatest + "=" + first
}

func (w writer) term(names string) string {
	if w.dice.Intn(2) == 0 {
		return w.pick("0123")
	}
	return w.pick(names)
}

func (w writer) change(name, names string) string {
	switch w.dice.Intn(3) {
	case 0:
		return name + "=?"
	case 1:
		return name + "=" + w.term(names)
	}
	return name + "=" + w.term(names) + "+" + w.pick("0123")
}

func (w writer) rule(names string) string {
	var conditions, changes []string
	for range w.dice.Intn(3) {
		conditions = append(conditions, w.term(names)+w.pick("=#<")+w.term(names))
	}
	for _, i := range w.dice.Perm(len(names))[:1+w.dice.Intn(len(names))] {
		if w.loose && w.dice.Intn(8) == 0 {
			i = 0
		}
		changes = append(changes, w.change(names[i:i+1], names))
	}
	return strings.Join(conditions, "&") + ":" + strings.Join(changes, ",")
}

func (w writer) model() string {
	names := "abc"[:1+w.dice.Intn(3)]
	var variables []string
	for i := range len(names) {
		variables = append(variables, w.variable(names[i:i+1]))
	}
	model := strings.Join(variables, ",")
	if w.loose && w.dice.Intn(4) == 0 {
		names = "abc"
	}
	for range w.dice.Intn(9) {
		longer := model + ";" + w.rule(names)
		if len(longer) > 120 {
			break
		}
		model = longer
	}
	return model
}

func (w writer) plain(names string) string {
	if w.dice.Intn(6) == 0 {
		return "T"
	}
	return w.term(names) + w.pick("=#<") + w.term(names)
}

func (w writer) one(names string, depth int) string {
	kind := w.dice.Intn(5)
	switch {
	case depth == 0 || kind == 0:
		return w.plain(names)
	case kind == 1:
		return "(" + w.anyFormula(names, depth-1) + ")"
	}
	return w.pick("!XFG") + w.one(names, depth-1)
}

func (w writer) pair(names string, depth int) string {
	one := w.one(names, depth)
	if w.dice.Intn(3) == 0 {
		return one + w.pick("URW") + w.one(names, depth)
	}
	return one
}

func (w writer) anyFormula(names string, depth int) string {
	f := w.pair(names, depth)
	for w.dice.Intn(3) == 0 {
		f += w.pick("&|") + w.pair(names, depth)
	}
	return f
}

// formula is one of the model's; a loose one may be too long or too heavy, and may have any name.
func (w writer) formula(model string) string {
	head, _, _ := strings.Cut(model, ";")
	names := "abc"[:strings.Count(head, ",")+1]
	if w.loose && w.dice.Intn(4) == 0 {
		names = "abc"
	}
	for {
		f := w.anyFormula(names, 4)
		if w.loose || len(f) <= 60 && weight(f) <= 4 {
			return f
		}
	}
}

// lasso has states of the model, in any order.
func (w writer) lasso(model string, most int) runs.Lasso {
	all := allStates(model)
	list := make([]string, 1+w.dice.Intn(most))
	for i := range list {
		list[i] = all[w.dice.Intn(len(all))]
	}
	return runs.Lasso{States: list, Loop: w.dice.Intn(len(list))}
}

// walk is a lasso that goes as a run does, but for its loop.
func (w writer) walk(model string, most int) runs.Lasso {
	var list []string
	next := wantFirst(model)
	for range 1 + w.dice.Intn(most) {
		s := next[w.dice.Intn(len(next))]
		list = append(list, s)
		next = wantNext(model, s)
	}
	return runs.Lasso{States: list, Loop: w.dice.Intn(len(list))}
}
