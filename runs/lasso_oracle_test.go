package runs_test

// What the document says of formulas and lassos, told a second time in another way.

import (
	"regexp"
	"slices"
	"sort"
	"strings"

	"runs/runs"
)

const (
	pairForm = `[!XFG]*T(?:[URW][!XFG]*T)?`
	flatForm = pairForm + `(?:[&|]` + pairForm + `)*`
)

var (
	aCondition = regexp.MustCompile(condForm)
	aBracket   = regexp.MustCompile(`\(` + flatForm + `\)`)
	aFlatOne   = regexp.MustCompile(`\A(?:` + flatForm + `)\z`)
)

// isFormula takes T for every condition, and then for every bracket without another in it, as long as there is one.
func isFormula(text string) bool {
	text = aCondition.ReplaceAllString(text, "T")
	for {
		shorter := aBracket.ReplaceAllString(text, "T")
		if shorter == text {
			return aFlatOne.MatchString(text)
		}
		text = shorter
	}
}

// beginsFormula: wherever a text stops that some formula begins with, one of these ends that formula, once the open brackets are closed.
func beginsFormula(text string) bool {
	closing := strings.Repeat(")", max(0, strings.Count(text, "(")-strings.Count(text, ")")))
	return slices.ContainsFunc([]string{"", "T", "=0", "0"}, func(end string) bool { return isFormula(text + end + closing) })
}

func wantFormula(model, formula string) (runs.Errno, int) {
	if e, p := wantCheck(model); e != runs.OK {
		return e, p
	}
	if len(formula) > 60 {
		return runs.ErrLong, 0
	}
	if !isFormula(formula) {
		return runs.ErrText, sort.Search(len(formula), func(n int) bool { return !beginsFormula(formula[:n+1]) })
	}
	for i := range len(formula) {
		if formula[i] == '(' && strings.Count(formula[:i+1], "(")-strings.Count(formula[:i+1], ")") > 10 {
			return runs.ErrNest, i
		}
	}
	head, _, _ := strings.Cut(model, ";")
	strange := "abc"[strings.Count(head, ",")+1:]
	if i := strings.IndexAny(formula, strange); strange != "" && i >= 0 {
		return runs.ErrName, i
	}
	if weight(formula) > 4 {
		return runs.ErrWeight, 0
	}
	return runs.OK, 0
}

func weight(formula string) int {
	return len(formula) - len(strings.NewReplacer("X", "", "F", "", "G", "", "U", "", "R", "", "W", "").Replace(formula))
}

func wantLasso(model string, l runs.Lasso) (runs.Errno, int) {
	if len(l.States) > 7000 {
		return runs.ErrLong, 0
	}
	all := allStates(model)
	if i := slices.IndexFunc(l.States, func(s string) bool { return !slices.Contains(all, s) }); i >= 0 {
		return runs.ErrState, i
	}
	if l.Loop < 0 || l.Loop >= len(l.States) {
		return runs.ErrLoop, 0
	}
	return runs.OK, 0
}

func wantRun(model string, l runs.Lasso) (runs.Errno, int) {
	if e, p := wantCheck(model); e != runs.OK {
		return e, p
	}
	if e, p := wantLasso(model, l); e != runs.OK {
		return e, p
	}
	if !slices.Contains(wantFirst(model), l.States[0]) {
		return runs.ErrRun, 0
	}
	for i := 1; i < len(l.States); i++ {
		if !slices.Contains(wantNext(model, l.States[i-1]), l.States[i]) {
			return runs.ErrRun, i
		}
	}
	if !slices.Contains(wantNext(model, l.States[len(l.States)-1]), l.States[l.Loop]) {
		return runs.ErrRun, len(l.States)
	}
	return runs.OK, 0
}

// signAt is where the first of the signs stands that is in no bracket; below 0: nowhere.
func signAt(formula, signs string) int {
	open := 0
	for i := range len(formula) {
		switch c := formula[i]; {
		case c == '(':
			open++
		case c == ')':
			open--
		case open == 0 && strings.IndexByte(signs, c) >= 0:
			return i
		}
	}
	return -1
}

// wantHolds takes the document's words as they stand, at the k-th of the states without an end.
func wantHolds(f string, l runs.Lasso, k int) bool {
	n := len(l.States)
	if k >= n {
		k = l.Loop + (k-l.Loop)%(n-l.Loop)
	}
	soon := k + n // all that comes later comes up to there
	if i := signAt(f, "|"); i >= 0 {
		return wantHolds(f[:i], l, k) || wantHolds(f[i+1:], l, k)
	}
	if i := signAt(f, "&"); i >= 0 {
		return wantHolds(f[:i], l, k) && wantHolds(f[i+1:], l, k)
	}
	if i := signAt(f, "URW"); i >= 0 {
		return wantPair(f[i], f[:i], f[i+1:], l, k, soon)
	}
	switch f[0] {
	case 'T':
		return true
	case '!':
		return !wantHolds(f[1:], l, k)
	case 'X':
		return wantHolds(f[1:], l, k+1)
	case 'F':
		return someHolds(f[1:], l, k, soon)
	case 'G':
		return allHold(f[1:], l, k, soon)
	case '(':
		return wantHolds(f[1:len(f)-1], l, k)
	}
	return condIn(f, l.States[k])
}

func someHolds(f string, l runs.Lasso, from, below int) bool {
	for i := from; i < below; i++ {
		if wantHolds(f, l, i) {
			return true
		}
	}
	return false
}

func allHold(f string, l runs.Lasso, from, below int) bool {
	for i := from; i < below; i++ {
		if !wantHolds(f, l, i) {
			return false
		}
	}
	return true
}

func wantPair(sign byte, f, g string, l runs.Lasso, k, soon int) bool {
	switch sign {
	case 'R':
		for i := k; i < soon; i++ {
			if wantHolds(f, l, i) && allHold(g, l, k, i+1) {
				return true
			}
		}
		return allHold(g, l, k, soon)
	case 'W':
		return wantPair('U', f, g, l, k, soon) || allHold(f, l, k, soon)
	}
	for i := k; i < soon; i++ {
		if wantHolds(g, l, i) && allHold(f, l, k, i) {
			return true
		}
	}
	return false
}
