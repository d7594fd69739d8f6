package runs_test

import (
	"math/rand"
	"strings"
)

// writer writes models, always the same ones in the same order. A loose one takes any names, first values and changes: what it writes has faults, but is never ErrText's.
type writer struct {
	dice  *rand.Rand
	loose bool
}

func newWriter(loose bool) writer {
	return writer{rand.New(rand.NewSource(7)), loose}
}

func (w writer) pick(from string) string {
	i := w.dice.Intn(len(from))
	return from[i : i+1]
}

func (w writer) variable(name string) string {
	greatest := w.pick("123")
	most := greatest
	if w.loose && w.dice.Intn(4) == 0 {
		most = "3"
	}
	first := ""
	for first == "" {
		for d := "0"; d <= most; d = string(rune(d[0] + 1)) {
			if w.dice.Intn(2) == 0 {
				first += d
			}
		}
	}
	return name + greatest + "=" + first
}

func (w writer) term(names string) string {
	if w.dice.Intn(2) == 0 {
		return w.pick("0123")
	}
	return w.pick(names)
}

func (w writer) change(name, names string) string {
	switch w.dice.Intn(3) {
	case 0:
		return name + "=?"
	case 1:
		return name + "=" + w.term(names)
	}
	return name + "=" + w.term(names) + "+" + w.pick("0123")
}

func (w writer) rule(names string) string {
	var conditions, changes []string
	for range w.dice.Intn(3) {
		conditions = append(conditions, w.term(names)+w.pick("=#<")+w.term(names))
	}
	for _, i := range w.dice.Perm(len(names))[:1+w.dice.Intn(len(names))] {
		if w.loose && w.dice.Intn(8) == 0 {
			i = 0
		}
		changes = append(changes, w.change(names[i:i+1], names))
	}
	return strings.Join(conditions, "&") + ":" + strings.Join(changes, ",")
}

func (w writer) model() string {
	names := "abc"[:1+w.dice.Intn(3)]
	var variables []string
	for i := range len(names) {
		variables = append(variables, w.variable(names[i:i+1]))
	}
	model := strings.Join(variables, ",")
	if w.loose && w.dice.Intn(4) == 0 {
		names = "abc"
	}
	for range w.dice.Intn(9) {
		longer := model + ";" + w.rule(names)
		if len(longer) > 120 {
			break
		}
		model = longer
	}
	return model
}
