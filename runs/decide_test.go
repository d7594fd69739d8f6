package runs_test

import (
	"runtime"
	"slices"
	"strings"
	"sync"
	"testing"
	"time"

	"runs/runs"
)

const (
	still   = "a1=01"
	free    = "a1=0;:a=?"
	wheel   = "a3=0;:a=a+1"
	choice  = "a2=0;a=0:a=1;a=0:a=0;a=1:a=2"
	ring    = "a3=0;:a=a+1;:a=a+3"
	counter = "a3=0,b3=0,c3=0;a<3:a=a+1;a=3&b<3:a=0,b=b+1;a=3&b=3:a=0,b=0,c=c+1"
	every   = "a3=0123,b3=0123,c3=0123;:a=?,b=?,c=?"
)

// testAgainst tells what is wrong with a lasso that is to be a run of which the formula does not hold.
func testAgainst(t *testing.T, model, formula string, l runs.Lasso) {
	t.Helper()
	if n := len(l.States); n == 0 || n > 7000 {
		t.Errorf("Decide(%q, %q): a lasso of %d states", model, formula, n)
		return
	}
	testRun(t, model, l, runs.OK, 0)
	testHolds(t, model, formula, l, false)
	if e, p := wantRun(model, l); e != runs.OK {
		t.Errorf("Decide(%q, %q): %s is no run: %d %d", model, formula, show(l), e, p)
	}
	if len(l.States) <= 6 && wantHolds(formula, l, 0) {
		t.Errorf("Decide(%q, %q): it holds of %s", model, formula, show(l))
	}
}

func testDecide(t *testing.T, model, formula string, want bool) runs.Lasso {
	t.Helper()
	got, l, e, p := runs.Decide(model, formula)
	if got != want || e != runs.OK || p != 0 || got && (len(l.States) > 0 || l.Loop != 0) {
		t.Errorf("Decide(%q, %q) = %v %s %d %d, want %v .. 0 0", model, formula, got, show(l), e, p, want)
		return l
	}
	if !got {
		testAgainst(t, model, formula, l)
	}
	return l
}

func testNoDecide(t *testing.T, model, formula string, want runs.Errno, place int) {
	t.Helper()
	if got, l, e, p := runs.Decide(model, formula); got || len(l.States) > 0 || l.Loop != 0 || e != want || p != place {
		t.Errorf("Decide(%.130q, %.80q) = %v %s %d %d, want false {} %d %d", model, formula, got, show(l), e, p, want, place)
	}
}

func TestP9Signs(t *testing.T) {
	for _, c := range []struct{ model, holds, fails string }{
		{still, "T Ga=0|Ga=1 a=0Wa=1|Ga=1 Xa=0|Xa=1 a=0&Ga=0|a=1&Ga=1 !(a=0&Fa=1)", "!T a=0 a=1 Ga=0 Fa=1 Xa=0 Xa=1 a=0Ua=1 a=1Wa=0&a=0Ua=0 !Fa=1 FGa=0"},
		{free, "T a=0 !a=1 a=0&T a=1|a=0 X(a=0|a=1) GFa=1|FGa=0 a=0Wa=1 a=1RT a=1R(a=0|a=1) Fa=0 G(a<2) !Ga=1", "!T a=1 !a=0 a=0&a=1 T&a=1 a=1|a=2 Xa=0 Xa=1 Fa=1 Ga=0 a=0Ua=1 a=1Ra=0 GFa=1 FGa=0 GFa=1|Ga=0 X!Xa=0 Fa=1|XXXa=1 FGa=0|FGa=1"},
		{wheel, "T Xa=1 XXXXa=0 Fa=3 G(a=3|X0<a) a<2Ua=2 a=0Wa=1 a=2Ra<3 GFa=2 !FGa=2 G!(a=1&Xa=1) F(a=1&Xa=2) XFa=0 a=0UXa=1 (a=0Ua=1)Ua=2", "!T Xa=0 XXXXa=1 F(a=1&Xa=3) Ga<3 a<2Ua=3 a=0Wa=2 a=3Ra<3 FGa=2 !GFa=2 Ga=0 G!a=3 a=1Ua=0&Xa=0 a=1U(Xa=3)"},
		{choice, "Fa=2|Ga=0 a=0Wa=1 a=1Ra<2 G(a=1|Xa<2|a=2) FGa=2|Ga=0 X(a=0|a=1) !Xa=2 G(a#1|Xa=2) G(a#2|Ga=2) a=0U(a=1|Ga=0) a=0W(a=1UGa=2)", "Fa=2 a=0Ua=1 a=2Ra<2 G(a=1|Xa<2) FGa=2 GFa=0 Xa=0 Xa=1 !Fa=1 Ga=0 a=0W(a=2) Fa=2|Xa=0&Xa=1"},
		{ring, "GF(a=0|a=2) G(a=0|a=2|X(a=0|a=2)) a=0Wa=1|a=0Wa=3", "GFa=0 FGa#1|FGa#3 FGa#0|FGa#1&T GFa=1 Fa=2 FG(a=0|a=1)|XXa=0 FG(a=0|a=3)|XXa=0 Fa=2|GFa=1 !Fa=2"},
	} {
		for _, f := range strings.Fields(c.holds) {
			testDecide(t, c.model, f, true)
		}
		for _, f := range strings.Fields(c.fails) {
			testDecide(t, c.model, f, false)
		}
	}
}

// A state that no rule moves stays; a rule that leaves a state as it is moves it, too.
func TestP9NoRuleMoves(t *testing.T) {
	testDecide(t, "a1=0", "Ga=0", true)
	testDecide(t, "a1=0", "Fa=1", false)
	testDecide(t, "a3=013;a=1:a=2", "Ga=0|XGa=2|Ga=3", true)
	testDecide(t, "a3=013;a=1:a=2", "XGa#1&(a=0|X!a=0)", true)
	testDecide(t, "a3=013;a=1:a=2", "Ga=0|Ga=3", false)
	testDecide(t, "a1=0;0=1:a=1", "Ga=0", true)
	testDecide(t, "a1=0;a=0:a=0;a=0:a=1", "XXXXa=1", false)
	testDecide(t, "a1=0;a=0:a=0", "Ga=0", true)
	testDecide(t, "a3=13;a#0:a=a+3", "FGa=0", true)
	testDecide(t, "a3=13;a#0:a=a+3", "Ga#0", false)
}

// No state is left out of a run that has to go through all.
func TestP9LongWays(t *testing.T) {
	testDecide(t, counter, "GF(a=3&b=3&c=3)", true)
	testDecide(t, counter, "G(a#1|b#2|c#3|X(a=2&b=2&c=3))", true)
	if l := testDecide(t, counter, "G(a<3|b<3|c<3)", false); len(l.States) < 64 {
		t.Errorf("%s does not come to 333", show(l))
	}
	if l := testDecide(t, counter, "FG(a<3|b<3|c<3)", false); len(l.States)-l.Loop < 64 {
		t.Errorf("%s does not go round", show(l))
	}
	testDecide(t, counter, "FGa#1|Gb#2|(c=0Uc=2)", false)
	testDecide(t, counter, "a=0&b=0&c=0&FG!(a=0&b=0&c=0)", false)
	testDecide(t, counter+";a=2&b=2&c=2:a=2", "GFc=3", false)
	testDecide(t, counter+";a=2&b=2&c=2:a=2", "GFc=3|FGc=2", true)
}

// Every part must be settled on the way round, by whichever place does.
func TestP9Rounds(t *testing.T) {
	testDecide(t, anyStep, "FGa#1|FGa#2", false)
	testDecide(t, anyStep, "FG!(a=1&b=2)|FG!(a=2&b=1)", false)
	testDecide(t, anyStep, "GF(a=1|b=2)|FG(a#1&b#2)", true)
	testDecide(t, anyStep, "FGa#0|FGb=3", false)
	testDecide(t, anyStep, "(GFa=1&FGb=0)|T", true)
	testDecide(t, anyStep, "!(GFa=1&GFb=2)", false)
	testDecide(t, anyStep, "!(GFa=1&FGa=2)", true)
	testDecide(t, anyStep, "!(GFa=1&FGb=2)", false)
	testDecide(t, anyStep, "G(a#1|Fb=1)", false)
	testDecide(t, "a1=0,b1=0;:a=a+1;:b=b+1", "GFa=1|GFb=1", true)
	testDecide(t, "a1=0,b1=0;:a=a+1;:b=b+1", "GFa=1&GFb=1", false)
	testDecide(t, "a1=0,b1=0;:a=a+1;:b=b+1", "GFa=1|FGb=1", false)
	testDecide(t, "a1=0,b1=0;:a=a+1;:b=b+1", "G(a=0|Xa=0|b=0|Xb=0)", true)
	testDecide(t, "a1=0,b1=0;:a=a+1;:b=b+1", "G(a=b|X(a=b))&G(!a=b|X!a=b)", true)
}

func TestP9Weights(t *testing.T) {
	for _, c := range []struct {
		formula string
		want    bool
	}{
		{"T", true}, {"!T", false}, {"a=0|a=1|a=2|a=3", true}, {"!(a<b)|!(b<a)", true}, {"a<b|b<a", false}, {"a=0", false}, {"!a=0|!b=0|!c=0", false},
		{"XXXXT", true}, {"XXXXa=0", false}, {"FFFFa=0", false}, {"GGGGT", true}, {"GGGGa<3", false}, {"FGFGT", true}, {"GFGFa=0", false}, {"FGFGa=0", false}, {"FGFGa=0|!a=0|T", true},
		{"(((TUT)UT)UT)UT", true}, {"(((TUT)UT)UT)Ua=0", false}, {"(((TRT)RT)RT)Ra=0", false}, {"(((a=0WT)WT)WT)Wa=0", true}, {"a=0U(a=1R(a=2W(a=3UT)))", true}, {"a=0U(a=1R(a=2W(a=3Ub=3)))", false}, {"TU(a=1R(TW(a=3UT)))", true},
		{"Fa=0|Fa=1|Fa=2|Fa=3", true}, {"FGa#0|FGa#1&T", false}, {"GFa=0|FGa#0", true}, {"GFa=0|Ga#0|Xa=1", false}, {"Fa=0|Ga#0|Fb=0|Gb=1", true}, {"XXa=0|XXa#0", true}, {"XXa=0&T|XXb#0", false},
		{"Ga=0|Gb=0|Gc=0|Xa=b", false}, {"Fa=0&Fa=1&Fb=0&Fb=1", false}, {"!(Fa=0&Fa=1&Fb=0&Fb=1)", false}, {"!(GFa=0&GFb=1)|c=c", true}, {"!(GFa=0&GFb=1)|a<b", false},
	} {
		testDecide(t, every, c.formula, c.want)
	}
}

func TestP9Errors(t *testing.T) {
	for _, model := range []string{"", "x", "a1=0;", "a1=012", "a1=0;:b=0", "a1=0;:a=0,a=0", wide + ";"} {
		e, p := wantCheck(model)
		for _, f := range []string{"T", "", "b=0", "XXXXXT", nested(11), strings.Repeat("(", 61)} {
			testNoDecide(t, model, f, e, p)
		}
	}
	testNoDecide(t, twoNames, strings.Repeat("!", 60)+"T", runs.ErrLong, 0)
	testNoDecide(t, twoNames, strings.Repeat("x", 1<<20), runs.ErrLong, 0)
	testNoDecide(t, twoNames, "", runs.ErrText, 0)
	testNoDecide(t, twoNames, "TUTUT", runs.ErrText, 3)
	testNoDecide(t, twoNames, "Ta=0", runs.ErrText, 1)
	testNoDecide(t, twoNames, "XXXXX", runs.ErrText, 5)
	testNoDecide(t, twoNames, nested(11)+"&c=0", runs.ErrNest, 10)
	testNoDecide(t, twoNames, "XXXXXa=c", runs.ErrName, 7)
	testNoDecide(t, twoNames, "c=0", runs.ErrName, 0)
	testNoDecide(t, twoNames, "XXXXXT", runs.ErrWeight, 0)
	testNoDecide(t, twoNames, "XXFTUGT", runs.ErrWeight, 0)
	testDecide(t, twoNames, nested(10), true)
	testDecide(t, twoNames, strings.Repeat("!", 59)+"T", false)
}

func TestP9Faulty(t *testing.T) {
	w := newWriter(true)
	seen := map[runs.Errno]int{}
	for range 3000 {
		model := w.model()
		f := w.formula(model)
		if w.dice.Intn(6) == 0 {
			i := w.dice.Intn(len(f))
			f = f[:i] + f[i+1:]
		}
		if e, p := wantFormula(model, f); e != runs.OK {
			testNoDecide(t, model, f, e, p)
			seen[e]++
		}
	}
	for _, e := range []runs.Errno{runs.ErrLong, runs.ErrText, runs.ErrName, runs.ErrValue, runs.ErrTwice, runs.ErrWeight} {
		if seen[e] < 20 {
			t.Errorf("only %d with %d", seen[e], e)
		}
	}
}

// shortRuns are all lassos of up to so many states that are runs.
func shortRuns(model string, most int) []runs.Lasso {
	var out []runs.Lasso
	next := map[string][]string{}
	for _, s := range allStates(model) {
		next[s] = wantNext(model, s)
	}
	var grow func(list, more []string)
	grow = func(list, more []string) {
		if len(list) > 0 {
			for loop, s := range list {
				if slices.Contains(more, s) {
					out = append(out, runs.Lasso{States: slices.Clone(list), Loop: loop})
				}
			}
		}
		if len(list) == most {
			return
		}
		for _, s := range more {
			grow(append(list, s), next[s])
		}
	}
	grow(nil, wantFirst(model))
	return out
}

func failsOfOne(model, formula string, lassos []runs.Lasso) bool {
	return slices.ContainsFunc(lassos, func(l runs.Lasso) bool {
		held, e, _ := runs.Holds(model, formula, l)
		return !held || e != runs.OK
	})
}

// Of small models, all short runs are brought: what they tell is what Decide does, or it shows a longer one.
func TestP9ShortRuns(t *testing.T) {
	w := newWriter(false)
	models := []string{still, free, wheel, choice, ring, "a1=01,b1=0;a=b:a=?;:b=a", "a1=0,b1=01;a=0:a=1,b=?;b=1&a=1:b=0;a=1:a=0"}
	for len(models) < 60 {
		if m := w.model(); len(allStates(m)) <= 4 {
			models = append(models, m)
		}
	}
	count := map[bool]int{}
	longer := 0
	for _, model := range models {
		lassos := shortRuns(model, 4)
		for range 40 {
			f := w.formula(model)
			held, l, _, _ := runs.Decide(model, f)
			count[held]++
			fails := failsOfOne(model, f, lassos)
			if !fails && !held {
				longer++
			}
			if fails && held {
				t.Errorf("Decide(%q, %q) = true, but a short run tells otherwise", model, f)
			}
			if len(l.States) > 0 == held {
				t.Errorf("Decide(%q, %q) = %v %s", model, f, held, show(l))
			}
			testDecide(t, model, f, held)
		}
	}
	if count[true] < 500 || count[false] < 500 || longer > 100 {
		t.Errorf("they hold and do not: %v, %d by a longer run", count, longer)
	}
}

// onlyRun is the run of a model from a first state, if there is just one.
func onlyRun(model, first string) (runs.Lasso, bool) {
	var l runs.Lasso
	for s := first; ; {
		if l.Loop = slices.Index(l.States, s); l.Loop >= 0 {
			return l, true
		}
		l.States = append(l.States, s)
		next := wantNext(model, s)
		if len(next) != 1 {
			return l, false
		}
		s = next[0]
	}
}

func onlyRuns(model string) ([]runs.Lasso, bool) {
	var out []runs.Lasso
	for _, s := range wantFirst(model) {
		l, ok := onlyRun(model, s)
		if !ok {
			return nil, false
		}
		out = append(out, l)
	}
	return out, true
}

// Where each first state has only one run, whether the formula holds of these is all there is to tell, and the lowest one that fails is shown.
func TestP9OnlyRuns(t *testing.T) {
	w := newWriter(false)
	tried, failed := 0, 0
	for tried < 2000 {
		model := w.model()
		lassos, ok := onlyRuns(model)
		if !ok {
			continue
		}
		for range 5 {
			tried++
			f := w.formula(model)
			i := slices.IndexFunc(lassos, func(l runs.Lasso) bool { return failsOfOne(model, f, []runs.Lasso{l}) })
			l := testDecide(t, model, f, i < 0)
			if i < 0 || len(l.States) == 0 {
				continue
			}
			failed++
			if l.States[0] != lassos[i].States[0] {
				t.Errorf("Decide(%q, %q): %s, want one from %s", model, f, show(l), lassos[i].States[0])
			}
		}
	}
	if failed < 500 || failed > tried-500 {
		t.Errorf("%d of %d do not hold", failed, tried)
	}
}

func withFirst(model, state string) string {
	head, rules, some := strings.Cut(model, ";")
	vars := strings.Split(head, ",")
	for i := range vars {
		vars[i] = vars[i][:3] + state[i:i+1]
	}
	if some {
		rules = ";" + rules
	}
	return strings.Join(vars, ",") + rules
}

// What is told of many first states is what is told of each by itself, and the lowest that fails is shown.
func TestP9LowestFirst(t *testing.T) {
	w := newWriter(false)
	for range 700 {
		model := w.model()
		f := w.formula(model)
		want := ""
		for _, s := range wantFirst(model) {
			if held, _, _, _ := runs.Decide(withFirst(model, s), f); !held {
				want = s
				break
			}
		}
		l := testDecide(t, model, f, want == "")
		if want != "" && len(l.States) > 0 && l.States[0] != want {
			t.Errorf("Decide(%q, %q): %s, want one from %s", model, f, show(l), want)
		}
	}
	for range 50 {
		if l := testDecide(t, "a3=0123,b3=0123;:a=?", "a=0|b=0|G(a=0|b<3)", false); len(l.States) > 0 && l.States[0] != "13" {
			t.Errorf("%s, want one from 13", show(l))
		}
	}
}

// What the signs say of each other must be so of the answers.
func TestP9Laws(t *testing.T) {
	w := newWriter(false)
	decide := func(model, f string) bool {
		held, _, e, p := runs.Decide(model, f)
		if e != runs.OK {
			t.Errorf("Decide(%q, %q): %d %d", model, f, e, p)
		}
		return held
	}
	tried := 0
	for tried < 1000 {
		model := w.model()
		f, g := "("+w.formula(model)+")", "("+w.formula(model)+")"
		if weight(f)+weight(g) > 3 || len(f)+len(g) > 50 {
			continue
		}
		tried++
		both := decide(model, f) && decide(model, g)
		if decide(model, f+"&"+g) != both {
			t.Errorf("of %q: %s&%s, and both by themselves", model, f, g)
		}
		if decide(model, f) && decide(model, "!"+f) {
			t.Errorf("of %q: %s and its not", model, f)
		}
		for _, pair := range [][2]string{{"F" + f, "TU" + f}, {"G" + f, "!F!" + f}, {"X" + f, "!X!" + f}, {f + "R" + g, "!(!" + f + "U!" + g + ")"}, {f + "W" + g, g + "R(" + f + "|" + g + ")"}} {
			if weight(pair[1]) <= 4 && len(pair[1]) <= 60 && decide(model, pair[0]) != decide(model, pair[1]) {
				t.Errorf("of %q: %s and %s", model, pair[0], pair[1])
			}
		}
	}
}

// Whatever holds of every run holds of those that are walked.
func TestP9Walks(t *testing.T) {
	w := newWriter(false)
	for range 1500 {
		model := w.model()
		f := w.formula(model)
		if held, _, _, _ := runs.Decide(model, f); !held {
			testDecide(t, model, f, false)
			continue
		}
		for range 10 {
			l := w.walk(model, 12)
			if e, _ := runs.Run(model, l); e == runs.OK {
				testHolds(t, model, f, l, true)
			}
		}
	}
}

func TestP9Again(t *testing.T) {
	w := newWriter(false)
	type question struct{ model, formula string }
	questions := []question{{every, "FGa#0|FGb#1"}, {every, "GFa=0|FGa#0"}, {still, "Ga=0"}}
	for range 40 {
		model := w.model()
		questions = append(questions, question{model, w.formula(model)})
	}
	for _, q := range questions {
		held, once, _, _ := runs.Decide(q.model, q.formula)
		var all sync.WaitGroup
		for range 4 {
			all.Go(func() {
				for range 10 {
					again, l, e, p := runs.Decide(q.model, q.formula)
					if again != held || !slices.Equal(l.States, once.States) || l.Loop != once.Loop || e != runs.OK || p != 0 {
						t.Errorf("Decide(%q, %q): %v %s, and then %v %s %d %d", q.model, q.formula, held, show(once), again, show(l), e, p)
					}
					clear(l.States[:cap(l.States)])
				}
			})
		}
		all.Wait()
	}
}

// A goroutine may still be on its last step when the call answers, hence the patience.
func TestP9AllHaveEnded(t *testing.T) {
	was := runtime.NumGoroutine()
	for range 20 {
		runs.Decide(every, "a=0|FGb#0")
		runs.Decide(every, "GFa=0|FGa#0")
	}
	for range 200 {
		if runtime.NumGoroutine() <= was {
			return
		}
		time.Sleep(10 * time.Millisecond)
	}
	t.Errorf("there were %d goroutines, and are %d", was, runtime.NumGoroutine())
}
