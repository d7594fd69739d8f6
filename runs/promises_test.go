package runs_test

import (
	"math"
	"slices"
	"strings"
	"sync"
	"testing"

	"runs/runs"
)

// oddTexts: any bytes, of any length.
func oddTexts() []string {
	odd := []string{"", "\x00", "\xff\xfe", "a1=0", "a1=0;", "a1=0;:a=?", strings.Repeat("a1=0,", 1<<18), strings.Repeat("(", 1<<20), strings.Repeat("\xf0", 120)}
	for c := range 256 {
		b := string([]byte{byte(c)})
		odd = append(odd, b, "a1="+b, "a1=0;"+b+":a=1", "(a="+b, "(T"+b+"T)", b+"T")
	}
	return odd
}

func TestP1ListsAndPlaces(t *testing.T) {
	for _, text := range oddTexts() {
		want, place := runs.Check(text)
		if place < 0 || place > len(text) || want == runs.OK && place != 0 {
			t.Errorf("Check(%.20q) = %d %d", text, want, place)
		}
		first, e, p := runs.First(text)
		if e != want || p != place || (e == runs.OK) != (len(first) > 0) {
			t.Errorf("First(%.20q) = %v %d %d", text, first, e, p)
		}
		for _, state := range []string{"0", text} {
			next, e, p := runs.Next(text, state)
			if want != runs.OK && (e != want || p != place) || p != 0 && want == runs.OK || (e == runs.OK) != (len(next) > 0) {
				t.Errorf("Next(%.20q, %.20q) = %v %d %d", text, state, next, e, p)
			}
		}
		if got, e, _ := runs.Next("a1=0;:a=?", text); (e == runs.OK) != (text == "0" || text == "1") || (e == runs.OK) != (len(got) > 0) {
			t.Errorf("Next(.., %.20q) = %v %d", text, got, e)
		}
	}
}

// Beside an error nothing holds, and the place is within what it tells of.
func TestP1FalseAndPlaces(t *testing.T) {
	l := runs.Lasso{States: []string{"0"}}
	for _, text := range oddTexts() {
		for _, model := range []string{text, "a1=0;:a=?"} {
			want, place := runs.Formula(model, text)
			if place < 0 || place > len(text) || want == runs.OK && place != 0 {
				t.Errorf("Formula(%.20q, %.20q) = %d %d", model, text, want, place)
			}
			if got, e, p := runs.Holds(model, text, l); got && e != runs.OK || e != want || p != place {
				t.Errorf("Holds(%.20q, %.20q, ..) = %v %d %d", model, text, got, e, p)
			}
			if got, l, e, p := runs.Decide(model, text); got && e != runs.OK || (got || e != runs.OK) && (len(l.States) > 0 || l.Loop != 0) || e != want || p != place {
				t.Errorf("Decide(%.20q, %.20q) = %v %s %d %d", model, text, got, show(l), e, p)
			}
			want, place = wantRun(model, l)
			testRun(t, model, l, want, place)
		}
		odd := runs.Lasso{States: []string{"0", text}, Loop: 1}
		if e, p := runs.Run("a1=0;:a=?", odd); (e == runs.OK) != (text == "0" || text == "1") || e != runs.OK && (e != runs.ErrState || p != 1) {
			t.Errorf("Run(.., %.20q) = %d %d", text, e, p)
		}
		if got, e, p := runs.Holds("a1=0;:a=?", "T", odd); got != (text == "0" || text == "1") || !got && (e != runs.ErrState || p != 1) {
			t.Errorf("Holds(.., %.20q) = %v %d %d", text, got, e, p)
		}
	}
}

func TestP1NoPanic(t *testing.T) {
	lassos := []runs.Lasso{{}, {Loop: -1}, {Loop: math.MaxInt}, {States: []string{"0"}, Loop: math.MinInt}, {States: make([]string, 100000), Loop: 5}}
	for _, text := range oddTexts() {
		for _, model := range []string{text, "a1=0;:a=?"} {
			runs.Formula(model, text)
			runs.Decide(model, text)
			for _, l := range lassos {
				runs.Holds(model, text, l)
				runs.Run(model, l)
			}
		}
	}
}

func TestP2AnsweredListIsTheCallers(t *testing.T) {
	const model = "a1=01,b1=01;a=1:b=?"
	ask := func() [][]string {
		first, _, _ := runs.First(model)
		next, _, _ := runs.Next(model, "10")
		itself, _, _ := runs.Next(model, "00")
		_, against, _, _ := runs.Decide(model, "a=0|Gb=1")
		return [][]string{first, next, itself, against.States}
	}
	want := [][]string{{"00", "01", "10", "11"}, {"10", "11"}, {"00"}, {"10"}}
	for range 3 {
		got := ask()
		for i := range want {
			if !slices.Equal(got[i], want[i]) {
				t.Fatalf("list %d is %v, want %v", i, got[i], want[i])
			}
		}
		for _, list := range got {
			whole := list[:cap(list)]
			for i := range whole {
				whole[i] = "spoilt"
			}
		}
	}
}

func TestP2HandedInListIsNotChanged(t *testing.T) {
	const model = "a2=0,b1=01;a<2:a=a+1;a=2:a=0,b=?"
	whole := []string{"00", "10", "20", "x", "spare", ""}
	for n := range len(whole) + 1 {
		for loop := -1; loop <= n; loop++ {
			states := slices.Clone(whole)
			l := runs.Lasso{States: states[:n], Loop: loop}
			held, e, p := runs.Holds(model, "GF(a=2|Xb=1)", l)
			runE, runP := runs.Run(model, l)
			if !slices.Equal(states, whole) || len(l.States) != n || l.Loop != loop {
				t.Fatalf("of %d states, with the loop %d: they are now %v", n, loop, states)
			}
			if againHeld, againE, againP := runs.Holds(model, "GF(a=2|Xb=1)", l); againHeld != held || againE != e || againP != p {
				t.Errorf("Holds of %v: %v %d %d, and then %v %d %d", l, held, e, p, againHeld, againE, againP)
			}
			if againE, againP := runs.Run(model, l); againE != runE || againP != runP {
				t.Errorf("Run of %v: %d %d, and then %d %d", l, runE, runP, againE, againP)
			}
		}
	}
}

func TestP2NothingIsKept(t *testing.T) {
	w := newWriter(true)
	type question struct {
		model, formula string
		lasso          runs.Lasso
	}
	var questions []question
	for range 300 {
		model := w.model()
		questions = append(questions, question{model, w.formula(model), w.lasso(model, 8)})
	}
	type answer struct {
		errnos         [5]runs.Errno
		places         [5]int
		first, against string
		held, decided  bool
		loop           int
	}
	ask := func(q question) (a answer) {
		a.errnos[0], a.places[0] = runs.Check(q.model)
		a.errnos[1], a.places[1] = runs.Formula(q.model, q.formula)
		a.held, a.errnos[2], a.places[2] = runs.Holds(q.model, q.formula, q.lasso)
		a.errnos[3], a.places[3] = runs.Run(q.model, q.lasso)
		first, _, _ := runs.First(q.model)
		a.first = strings.Join(first, " ")
		var l runs.Lasso
		a.decided, l, a.errnos[4], a.places[4] = runs.Decide(q.model, q.formula)
		a.against, a.loop = strings.Join(l.States, " "), l.Loop
		return a
	}
	once := make([]answer, len(questions))
	for i, q := range questions {
		once[i] = ask(q)
	}
	var all sync.WaitGroup
	for range 4 {
		all.Go(func() {
			for i := len(questions) - 1; i >= 0; i-- {
				if got := ask(questions[i]); got != once[i] {
					t.Errorf("%v: %v, and then %v", questions[i], once[i], got)
				}
			}
		})
	}
	all.Wait()
}
