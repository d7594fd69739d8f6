package runs_test

import (
	"fmt"
	"math"
	"slices"
	"strings"
	"testing"

	"runs/runs"
)

const anyStep = "a3=0,b3=0;:a=?,b=?"

func lassoOf(states string, loop int) runs.Lasso {
	return runs.Lasso{States: strings.Fields(states), Loop: loop}
}

func show(l runs.Lasso) string {
	n := len(l.States)
	return fmt.Sprintf("{%d states %.20q, loop %d}", n, l.States[:min(n, 8)], l.Loop)
}

func testHolds(t *testing.T, model, formula string, l runs.Lasso, want bool) {
	t.Helper()
	if got, e, p := runs.Holds(model, formula, l); got != want || e != runs.OK || p != 0 {
		t.Errorf("Holds(%q, %q, %s) = %v %d %d, want %v 0 0", model, formula, show(l), got, e, p, want)
	}
}

func testNoHolds(t *testing.T, model, formula string, l runs.Lasso, want runs.Errno, place int) {
	t.Helper()
	if got, e, p := runs.Holds(model, formula, l); got || e != want || p != place {
		t.Errorf("Holds(%.130q, %.80q, %s) = %v %d %d, want false %d %d", model, formula, show(l), got, e, p, want, place)
	}
}

func testRun(t *testing.T, model string, l runs.Lasso, want runs.Errno, place int) {
	t.Helper()
	if e, p := runs.Run(model, l); e != want || p != place {
		t.Errorf("Run(%.130q, %s) = %d %d, want %d %d", model, show(l), e, p, want, place)
	}
}

// Of one variable, a greatest value 3 and any states: each sign by itself.
func TestP7Signs(t *testing.T) {
	for _, c := range []struct {
		formula, states string
		loop            int
		want            bool
	}{
		{"T", "0", 0, true}, {"!T", "0", 0, false}, {"a=0", "0 1", 1, true}, {"a=0", "1 0", 1, false}, {"a#0", "1 0", 1, true}, {"a<1", "1 0", 1, false}, {"1<a", "2", 0, true},
		{"!a=0", "0", 0, false}, {"!a=0", "1", 0, true}, {"!!a=0", "0", 0, true},
		{"a=0&a<2", "0", 0, true}, {"a=0&a=1", "0", 0, false}, {"a=1&a=0", "0", 0, false}, {"a=0|a=1", "0", 0, true}, {"a=1|a=0", "0", 0, true}, {"a=1|a=2", "0", 0, false},
		{"Xa=1", "0 1", 0, true}, {"Xa=1", "0 1", 1, true}, {"Xa=0", "0 1", 0, false}, {"XXa=0", "0 1", 0, true}, {"XXa=0", "0 1", 1, false}, {"Xa=0", "0", 0, true},
		{"Fa=0", "0 1", 1, true}, {"Fa=1", "0 1", 1, true}, {"Fa=2", "0 1", 1, false}, {"XFa=0", "0 1", 1, false}, {"XFa=0", "0 1", 0, true}, {"FXa=0", "0 1", 1, false},
		{"Ga<2", "0 1", 0, true}, {"Ga=0", "0 1", 0, false}, {"Ga=1", "0 1", 1, false}, {"XGa=1", "0 1", 1, true}, {"XGa=1", "0 1", 0, false},
		{"GFa=0", "0 1", 0, true}, {"GFa=0", "0 1", 1, false}, {"FGa=1", "0 1", 1, true}, {"FGa=1", "0 1", 0, false},
		{"a=0Ua=1", "0 0 1 2", 3, true}, {"a=0Ua=1", "1 0", 1, true}, {"a=0Ua=1", "0 2 1", 2, false}, {"a=0Ua=1", "0", 0, false}, {"a=0Ua=1", "2", 0, false}, {"a=0Ua=0", "0 2", 1, true},
		{"a=0Wa=1", "0 0 1 2", 3, true}, {"a=0Wa=1", "1 0", 1, true}, {"a=0Wa=1", "0 2 1", 2, false}, {"a=0Wa=1", "0", 0, true}, {"a=0Wa=1", "2", 0, false},
		{"a=0Ra<2", "1 1 0 2", 3, true}, {"a=0Ra<2", "1 1 2 0", 3, false}, {"a=0Ra<2", "1", 0, true}, {"a=0Ra<2", "0 2", 1, true}, {"a=0Ra<2", "2 0", 1, false}, {"a=0Ra=1", "1 0", 1, false}, {"a=0Ra=1", "1 1 0 1", 3, false}, {"TRa=0", "0 1", 1, true}, {"!TRa=0", "0 1", 1, false},
	} {
		testHolds(t, "a3=0", c.formula, lassoOf(c.states, c.loop), c.want)
	}
}

// Texts and states by which the ways to bind a text tell apart.
func TestP7WhichBindsCloser(t *testing.T) {
	for _, c := range []struct {
		formula, states string
		loop            int
		want            bool
	}{
		{"a=0|a=1&a=2", "0", 0, true}, {"(a=0|a=1)&a=2", "0", 0, false}, {"a=2&a=1|a=0", "0", 0, true}, {"a=2&(a=1|a=0)", "0", 0, false},
		{"!a=1|a=0", "0", 0, true}, {"!(a=1|a=0)", "0", 0, false}, {"!a=0&a=1", "0", 0, false}, {"!(a=0&a=1)", "0", 0, true},
		{"!a=1Ua=1", "1", 0, true}, {"!(a=1Ua=1)", "1", 0, false}, {"!TRT", "0", 0, true}, {"!(TRT)", "0", 0, false},
		{"Xa=0Ua=1", "1 2", 1, true}, {"X(a=0Ua=1)", "1 2", 1, false}, {"Xa=1&a=0", "0 1", 1, true}, {"X(a=1&a=0)", "0 1", 1, false}, {"Xa=1|a=0", "0 2", 1, true}, {"X(a=1|a=0)", "0 2", 1, false},
		{"Fa=1&a=0", "0 1", 1, true}, {"F(a=1&a=0)", "0 1", 1, false}, {"Ga=0|a=1", "0 1", 0, false}, {"G(a=0|a=1)", "0 1", 0, true}, {"Ga=1Wa=0", "0 1", 1, true}, {"G(a=1Wa=0)", "0 2", 1, false}, {"Fa=1Ua=2", "2 1", 0, true}, {"Fa=1Wa=2", "0 1", 0, true}, {"F(a=1Wa=2)", "0", 0, false},
		{"a=0Ua=1&a=0", "0 1", 1, true}, {"a=0U(a=1&a=0)", "0 1", 1, false}, {"a=1&a=0Ua=1", "0 1", 1, false}, {"(a=1&a=0)Ua=1", "1", 0, true},
		{"a=0Ua=1|a=2", "0 2", 1, false}, {"a=0U(a=1|a=2)", "0 2", 1, true}, {"a=0|a=1Ua=2", "0 1", 1, true}, {"(a=0|a=1)Ua=2", "0 1", 1, false},
		{"a=0Ra=0&a=1", "0 1", 1, false}, {"a=1|a=0Wa=2", "1 3", 1, true}, {"(a=1|a=0)Wa=2", "1 3", 1, false},
		{"a=0UXa=2", "0 0 1 2", 3, true}, {"a=0UXa=2", "0 1 1 2", 3, false}, {"a=0U(Xa=2)", "0 0 2", 2, true}, {"a=0UX!a=0", "0 0 1", 2, true},
		{"(a=0Ua=1)Ua=2", "0 0 1 2", 3, true}, {"a=0U(a=1Ua=2)", "0 0 1 2", 3, true}, {"(a=0Ua=1)Ua=2", "1 0 2", 2, false}, {"a=3U(a=1Ua=2)", "1 0 2", 2, false}, {"(a=1Ua=0)Ua=2", "1 1 0 0 2", 4, true}, {"a=1U(a=0Ua=2)", "0 0 1 2", 3, false}, {"(a=1Ua=0)Ua=2", "0 0 1 2", 3, false},
		{"a=1|a=2|a=0", "0", 0, true}, {"a=0&a<1&a<2", "0", 0, true}, {"a=0&a<1&a=2", "0", 0, false}, {"a=1&T|T&a=0", "0", 0, true}, {"a=1|T&T|a=2", "0", 0, true},
	} {
		testHolds(t, "a3=0", c.formula, lassoOf(c.states, c.loop), c.want)
	}
}

func TestP7Loops(t *testing.T) {
	for _, c := range []struct {
		states string
		loop   int
		want   string // for each k, whether XX..X, k times, a=0 holds
	}{
		{"0", 0, "yyyyy"}, {"1", 0, "nnnnn"}, {"0 1", 0, "ynyny"}, {"0 1", 1, "ynnnn"}, {"1 0", 1, "nyyyy"}, {"1 0 1", 0, "nynny"}, {"1 0 1", 1, "nynyn"}, {"1 0 1", 2, "nynnn"},
	} {
		for k := range len(c.want) {
			testHolds(t, "a1=0", strings.Repeat("X", k)+"a=0", lassoOf(c.states, c.loop), c.want[k] == 'y')
		}
	}
}

// A lasso need be no run: neither its first state, nor its steps, nor its loop.
func TestP7NoRun(t *testing.T) {
	const model = "a3=0,b1=0;a<2:a=a+1"
	testHolds(t, model, "F(a=0&X(a=3&Xb=1))", lassoOf("31 20 00 30 11", 2), true)
	testHolds(t, model, "GF(b=1)", lassoOf("31 20 00 30 11", 4), true)
	testHolds(t, model, "GF(b=0)", lassoOf("31 20 00 30 11", 4), false)
}

func TestP7TextsOfStates(t *testing.T) {
	testHolds(t, "a1=0,b2=0,c3=0", "a=1&b=2&c=3", lassoOf("123", 0), true)
	for _, state := range []string{"", "0", "000", "20", "03", "0a", "x0", " 00", "00 ", "0\x00", "\xff0", "0\u0660", strings.Repeat("0", 1<<20)} {
		for number := range 3 {
			l := lassoOf("00 12 01", 0)
			l.States[number] = state
			testNoHolds(t, "a1=0,b2=0;:a=1", "T", l, runs.ErrState, number)
			testRun(t, "a1=0,b2=0;:a=1", l, runs.ErrState, number)
		}
	}
}

func TestP7P8Bounds(t *testing.T) {
	long := runs.Lasso{States: slices.Repeat([]string{"00"}, 7000)}
	for _, loop := range []int{0, 3500, 6999} {
		long.Loop = loop
		testHolds(t, anyStep, "Ga=0&XGb=0&!Fa=1", long, true)
		testRun(t, anyStep, long, runs.OK, 0)
	}
	for _, loop := range []int{-1, 7000, 7001} {
		long.Loop = loop
		testNoHolds(t, anyStep, "T", long, runs.ErrLoop, 0)
		testRun(t, anyStep, long, runs.ErrLoop, 0)
	}
	last := runs.Lasso{States: append(slices.Repeat([]string{"00"}, 6999), "12"), Loop: 6999}
	testHolds(t, anyStep, "a=0Ua=1&FGb=2&!G!a=1", last, true)
	testHolds(t, anyStep, "FGa=0", last, false)
	last.States[6999] = "x"
	testNoHolds(t, anyStep, "T", last, runs.ErrState, 6999)
	testRun(t, anyStep, last, runs.ErrState, 6999)
	for _, n := range []int{7001, 100000} {
		for _, state := range []string{"00", "x"} {
			for _, loop := range []int{0, -1, n} {
				l := runs.Lasso{States: slices.Repeat([]string{state}, n), Loop: loop}
				testNoHolds(t, anyStep, "T", l, runs.ErrLong, 0)
				testRun(t, anyStep, l, runs.ErrLong, 0)
			}
		}
	}
}

func TestP7P8Loop(t *testing.T) {
	for _, loop := range []int{math.MinInt, -1, 0, 1, math.MaxInt} {
		for _, states := range [][]string{nil, {}} {
			testNoHolds(t, anyStep, "T", runs.Lasso{States: states, Loop: loop}, runs.ErrLoop, 0)
			testRun(t, anyStep, runs.Lasso{States: states, Loop: loop}, runs.ErrLoop, 0)
		}
	}
	for _, loop := range []int{math.MinInt, -1, 2, 3, math.MaxInt} {
		testNoHolds(t, anyStep, "T", lassoOf("00 00", loop), runs.ErrLoop, 0)
		testRun(t, anyStep, lassoOf("00 00", loop), runs.ErrLoop, 0)
	}
	for loop := range 2 {
		testHolds(t, anyStep, "T", lassoOf("00 00", loop), true)
		testRun(t, anyStep, lassoOf("00 00", loop), runs.OK, 0)
	}
}

// Two that apply at once: the model, the formula, the number of states, the states, the loop, and only then the run.
func TestP7P8Order(t *testing.T) {
	tooLong := runs.Lasso{States: slices.Repeat([]string{"x"}, 7001), Loop: -1}
	for _, l := range []runs.Lasso{tooLong, lassoOf("00 x", -1), lassoOf("00", 7), lassoOf("33", 0)} {
		testNoHolds(t, "a1=0;:b=0", "c=", l, runs.ErrName, 6)
		testRun(t, "a1=0;:b=0", l, runs.ErrName, 6)
		testNoHolds(t, anyStep, strings.Repeat("(", 61), l, runs.ErrLong, 0)
		testNoHolds(t, anyStep, "a=0&", l, runs.ErrText, 4)
		testNoHolds(t, anyStep, "!"+nested(11), l, runs.ErrNest, 11)
		testNoHolds(t, anyStep, "a=c", l, runs.ErrName, 2)
		testNoHolds(t, anyStep, "XXXXXT", l, runs.ErrWeight, 0)
	}
	testNoHolds(t, anyStep, "T", lassoOf("00 x y", -1), runs.ErrState, 1)
	testRun(t, anyStep, lassoOf("11 x y", 3), runs.ErrState, 1)
	testRun(t, anyStep, lassoOf("11 00", 2), runs.ErrLoop, 0)
}

func TestP7ManyLassos(t *testing.T) {
	w := newWriter(false)
	count := map[bool]int{}
	for range 6000 {
		model := w.model()
		f := w.formula(model)
		l := w.lasso(model, 5)
		want := wantHolds(f, l, 0)
		count[want]++
		testHolds(t, model, f, l, want)
	}
	if count[true] < 1000 || count[false] < 1000 {
		t.Errorf("they hold and do not: %v", count)
	}
}

// Every formula of one sign and of one within another, on every lasso of up to four states of one variable.
func TestP7AllShortLassos(t *testing.T) {
	ones := []string{"Xa=0", "Fa=0", "Ga=0", "a=0Ua=1", "a=0Ra=1", "a=0Wa=1", "a=0Ra<2", "a<2Ra=0"}
	formulas := slices.Clone(ones)
	for _, f := range ones {
		formulas = append(formulas, "!("+f+")", "X("+f+")", "F("+f+")", "G("+f+")")
		for _, sign := range []string{"U", "R", "W"} {
			formulas = append(formulas, "a=1"+sign+"("+f+")", "("+f+")"+sign+"a=2")
		}
	}
	texts := []string{""}
	for range 4 {
		var longer []string
		for _, text := range texts {
			longer = append(longer, text+" 0", text+" 1", text+" 2")
		}
		texts = longer
		for _, text := range texts {
			for loop := range len(strings.Fields(text)) {
				for _, f := range formulas {
					l := lassoOf(text, loop)
					testHolds(t, "a2=0", f, l, wantHolds(f, l, 0))
				}
			}
		}
	}
}

func TestP8Runs(t *testing.T) {
	const model = "a2=0,b1=01;a<2:a=a+1;a=2:a=0,b=?"
	for _, c := range []struct {
		states string
		loop   int
		want   runs.Errno
		place  int
	}{
		{"00 10 20", 0, runs.OK, 0}, {"01 11 21", 0, runs.OK, 0}, {"00 10 20 01 11 21", 0, runs.OK, 0}, {"00 10 20 01 11 21", 3, runs.OK, 0}, {"00 10 20 00 10", 2, runs.OK, 0},
		{"10", 0, runs.ErrRun, 0}, {"20 00 10", 0, runs.ErrRun, 0}, {"21 01 21", 1, runs.ErrRun, 0},
		{"00 20", 0, runs.ErrRun, 1}, {"00 00", 0, runs.ErrRun, 1}, {"00 10 21", 0, runs.ErrRun, 2}, {"00 10 20 10 00", 0, runs.ErrRun, 3}, {"00 10 20 01 10", 4, runs.ErrRun, 4},
		{"00", 0, runs.ErrRun, 1}, {"00 10", 0, runs.ErrRun, 2}, {"00 10", 1, runs.ErrRun, 2}, {"00 10 20", 1, runs.ErrRun, 3}, {"00 10 20", 2, runs.ErrRun, 3}, {"00 10 20 01 11 21", 1, runs.ErrRun, 6},
	} {
		testRun(t, model, lassoOf(c.states, c.loop), c.want, c.place)
	}
	testRun(t, "a1=0", lassoOf("0", 0), runs.OK, 0)
	testRun(t, "a1=0", lassoOf("0 0 0", 1), runs.OK, 0)
	testRun(t, "a1=0", lassoOf("1", 0), runs.ErrRun, 0)
	testRun(t, "a1=01", lassoOf("0 1", 1), runs.ErrRun, 1)
	testRun(t, "a3=1;a<2:a=a+3", lassoOf("1 0 3", 2), runs.OK, 0)
	testRun(t, "a1=0;:a=?", lassoOf("0 1 1 0", 0), runs.OK, 0)
}

func TestP8Errors(t *testing.T) {
	for _, model := range []string{"", "x", "a1=0;", "a1=012", "a1=0;:b=0", "a1=0;:a=0,a=0", wide + ";"} {
		want, place := wantCheck(model)
		testRun(t, model, lassoOf("0", 0), want, place)
		testRun(t, model, runs.Lasso{}, want, place)
		testNoHolds(t, model, "T", lassoOf("0", 0), want, place)
	}
}

func TestP8ManyLassos(t *testing.T) {
	w := newWriter(false)
	seen := map[runs.Errno]int{}
	for i := range 6000 {
		model := w.model()
		l := w.walk(model, 6)
		if i%4 == 0 {
			l = w.lasso(model, 6)
		}
		if i%9 == 0 {
			l.States[w.dice.Intn(len(l.States))] = w.pick("0123") + w.pick("01234x")
		}
		if i%9 == 1 {
			l.Loop = w.dice.Intn(9) - 1
		}
		e, p := wantRun(model, l)
		seen[e]++
		testRun(t, model, l, e, p)
	}
	for _, e := range []runs.Errno{runs.OK, runs.ErrState, runs.ErrLoop, runs.ErrRun} {
		if seen[e] < 100 {
			t.Errorf("only %d lassos with %d", seen[e], e)
		}
	}
}
