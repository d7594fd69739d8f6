package runs_test

import (
	"math"
	"slices"
	"strings"
	"sync"
	"testing"

	"runs/runs"
)

// oddTexts: any bytes, of any length.
func oddTexts() []string {
	odd := []string{"", "\x00", "\xff\xfe", "a1=0", "a1=0;", "a1=0;:a=?", strings.Repeat("a1=0,", 1<<18), strings.Repeat("(", 1<<20), strings.Repeat("\xf0", 120)}
	for c := range 256 {
		odd = append(odd, string([]byte{byte(c)}), "a1="+string([]byte{byte(c)}), "a1=0;"+string([]byte{byte(c)})+":a=1")
	}
	return odd
}

func TestP1ListsAndPlaces(t *testing.T) {
	for _, text := range oddTexts() {
		want, place := runs.Check(text)
		if place < 0 || place > len(text) || want == runs.OK && place != 0 {
			t.Errorf("Check(%.20q) = %d %d", text, want, place)
		}
		first, e, p := runs.First(text)
		if e != want || p != place || (e == runs.OK) != (len(first) > 0) {
			t.Errorf("First(%.20q) = %v %d %d", text, first, e, p)
		}
		for _, state := range []string{"0", text} {
			next, e, p := runs.Next(text, state)
			if want != runs.OK && (e != want || p != place) || p != 0 && want == runs.OK || (e == runs.OK) != (len(next) > 0) {
				t.Errorf("Next(%.20q, %.20q) = %v %d %d", text, state, next, e, p)
			}
		}
		if got, e, _ := runs.Next("a1=0;:a=?", text); (e == runs.OK) != (text == "0" || text == "1") || (e == runs.OK) != (len(got) > 0) {
			t.Errorf("Next(.., %.20q) = %v %d", text, got, e)
		}
	}
}

func TestP1NoPanic(t *testing.T) {
	lassos := []runs.Lasso{{}, {Loop: -1}, {Loop: math.MaxInt}, {States: []string{"0"}, Loop: math.MinInt}, {States: make([]string, 100000), Loop: 5}}
	for _, text := range oddTexts() {
		for _, model := range []string{text, "a1=0;:a=?"} {
			runs.Formula(model, text)
			runs.Decide(model, text)
			for _, l := range lassos {
				runs.Holds(model, text, l)
				runs.Run(model, l)
			}
		}
	}
}

func TestP2AnsweredListIsTheCallers(t *testing.T) {
	const model = "a1=01,b1=01;a=1:b=?"
	ask := func() [][]string {
		first, _, _ := runs.First(model)
		next, _, _ := runs.Next(model, "10")
		itself, _, _ := runs.Next(model, "00")
		return [][]string{first, next, itself}
	}
	want := [][]string{{"00", "01", "10", "11"}, {"10", "11"}, {"00"}}
	for range 3 {
		got := ask()
		for i := range want {
			if !slices.Equal(got[i], want[i]) {
				t.Fatalf("list %d is %v, want %v", i, got[i], want[i])
			}
		}
		for _, list := range got {
			whole := list[:cap(list)]
			for i := range whole {
				whole[i] = "spoilt"
			}
		}
	}
}

func TestP2NothingIsKept(t *testing.T) {
	w := newWriter(true)
	var models []string
	for range 300 {
		models = append(models, w.model())
	}
	type answer struct {
		errno runs.Errno
		place int
		first string
	}
	ask := func(model string) answer {
		e, p := runs.Check(model)
		first, _, _ := runs.First(model)
		return answer{e, p, strings.Join(first, " ")}
	}
	once := make([]answer, len(models))
	for i, m := range models {
		once[i] = ask(m)
	}
	var all sync.WaitGroup
	for range 4 {
		all.Go(func() {
			for i := len(models) - 1; i >= 0; i-- {
				if got := ask(models[i]); got != once[i] {
					t.Errorf("%q: %v, and then %v", models[i], once[i], got)
				}
			}
		})
	}
	all.Wait()
}
