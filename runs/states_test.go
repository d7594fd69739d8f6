package runs_test

import (
	"slices"
	"strings"
	"testing"

	"runs/runs"
)

func testList(t *testing.T, call string, got []string, e runs.Errno, p int, want string) {
	t.Helper()
	if strings.Join(got, " ") != want || e != runs.OK || p != 0 {
		t.Errorf("%s = %v %d %d, want [%s] 0 0", call, got, e, p, want)
	}
}

func testFirst(t *testing.T, model string, want string) {
	t.Helper()
	got, e, p := runs.First(model)
	testList(t, "First("+model+")", got, e, p, want)
}

func testNext(t *testing.T, model string, state string, want string) {
	t.Helper()
	got, e, p := runs.Next(model, state)
	testList(t, "Next("+model+", "+state+")", got, e, p, want)
}

func TestP4First(t *testing.T) {
	testFirst(t, "a1=1", "1")
	testFirst(t, "a3=03", "0 3")
	testFirst(t, "a3=3,b2=02", "30 32")
	testFirst(t, "a1=01,b1=01,c1=01", "000 001 010 011 100 101 110 111")
	testFirst(t, "a1=01,b3=2,c2=12;:a=0", "021 022 121 122")
}

func TestP4Errors(t *testing.T) {
	for _, model := range []string{"", "a1=0;", "a1=2", "a1=01,b2=0123", "a1=0;:b=0", "a1=0;:a=0,a=1", wide + ";"} {
		want, place := wantCheck(model)
		if got, e, p := runs.First(model); len(got) != 0 || e != want || p != place || e == runs.OK {
			t.Errorf("First(%.80q) = %v %d %d, want [] %d %d", model, got, e, p, want, place)
		}
	}
}

func TestP5Rules(t *testing.T) {
	testNext(t, "a3=0;:a=1;:a=3;:a=0;:a=1", "2", "0 1 3")
	testNext(t, "a1=0,b1=0;:a=b,b=a", "01", "10")
	testNext(t, "a2=0,b2=0,c2=0;:a=b,b=c,c=a+1", "012", "121")
	testNext(t, "a1=0;0=1:a=1;1=0:a=?", "0", "0")
	testNext(t, "a1=0;a=0&a=1:a=1", "0", "0")
	testNext(t, "a1=0;a=0:a=0", "0", "0")
	testNext(t, wide, "0", "1")
	testNext(t, wide, "1", "1")
}

func TestP5Conditions(t *testing.T) {
	for _, c := range []struct{ condition, state, want string }{
		{"a=b", "11", "31"}, {"a=b", "12", "12"}, {"a#b", "12", "32"}, {"a#b", "22", "22"}, {"a<b", "12", "32"}, {"a<b", "11", "11"}, {"a<b", "21", "21"},
		{"2=a", "20", "30"}, {"a=3", "20", "20"}, {"0<1", "00", "30"}, {"a<b&b<3", "12", "32"}, {"a<b&b<2", "12", "12"}, {"b<2&a<b", "12", "12"},
	} {
		testNext(t, "a3=0,b3=0;"+c.condition+":a=3", c.state, c.want)
	}
	testNext(t, "a1=0;a<3:a=1", "0", "1")
	testNext(t, "a1=0;a=3:a=1", "0", "0")
}

func TestP5AboveTheGreatest(t *testing.T) {
	testNext(t, "a1=0;:a=3", "0", "1")
	testNext(t, "a1=0;:a=2", "1", "0")
	testNext(t, "a2=0;:a=3", "1", "0")
	testNext(t, "a2=0;:a=3+3", "1", "0")
	testNext(t, "a3=0;:a=3+3", "0", "2")
	testNext(t, "a3=0;:a=a+1", "3", "0")
	testNext(t, "a1=0,b3=0;:a=b", "03", "13")
	testNext(t, "a1=0,b3=0;:a=b+1", "03", "03")
	testNext(t, "a3=0;:a=3", "0", "3")
}

func TestP5AnyValue(t *testing.T) {
	testNext(t, "a2=0;:a=?", "1", "0 1 2")
	testNext(t, "a1=0,b2=0;:b=?", "12", "10 11 12")
	testNext(t, "a1=0,b2=0;:b=?,a=?", "00", "00 01 02 10 11 12")
	testNext(t, "a1=0,b2=0;:b=?,a=b;:a=0", "02", "00 01 02")
	testNext(t, "a3=0,b3=0,c3=0;:a=?,b=?,c=?", "333", strings.Join(allStates("a3=0,b3=0,c3=0"), " "))
}

func TestP5NoState(t *testing.T) {
	for _, state := range []string{"", "0", "000", "20", "03", "0a", "a0", " 00", "00 ", "0\x00", "0/", "\xff0", "0\u0660", "-1", strings.Repeat("0", 1<<20)} {
		if got, e, p := runs.Next("a1=0,b2=0;:a=1", state); len(got) != 0 || e != runs.ErrState || p != 0 {
			t.Errorf("Next(.., %.20q) = %v %d %d, want [] 8 0", state, got, e, p)
		}
	}
	testNext(t, "a1=0,b2=0;:a=1", "02", "12")
}

func TestP5Errors(t *testing.T) {
	for _, model := range []string{"", "a1=0;", "a1=01,b2=0123", "a1=0;:b=0", "a1=0;:a=0,a=1", wide + ";"} {
		want, place := wantCheck(model)
		for _, state := range []string{"0", "x", ""} {
			if got, e, p := runs.Next(model, state); len(got) != 0 || e != want || p != place || e == runs.OK {
				t.Errorf("Next(%.80q, %q) = %v %d %d, want [] %d %d", model, state, got, e, p, want, place)
			}
		}
	}
}

func TestP4P5ManyModels(t *testing.T) {
	w := newWriter(false)
	for range 1500 {
		model := w.model()
		testFirst(t, model, strings.Join(wantFirst(model), " "))
		for _, s := range allStates(model) {
			want := wantNext(model, s)
			if !slices.IsSorted(want) {
				t.Fatalf("the wanted states %v do not rise", want)
			}
			testNext(t, model, s, strings.Join(want, " "))
		}
	}
}
