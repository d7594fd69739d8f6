package runs_test

import (
	"strings"
	"testing"

	"runs/runs"
)

const twoNames = "a2=0,b1=01;a<2:a=a+1;a=2:a=0,b=?"

func testFormula(t *testing.T, model, formula string, want runs.Errno, place int) {
	t.Helper()
	if e, p := runs.Formula(model, formula); e != want || p != place {
		t.Errorf("Formula(%.130q, %.80q) = %d %d, want %d %d", model, formula, e, p, want, place)
	}
}

func nested(depth int) string {
	return strings.Repeat("(", depth) + "T" + strings.Repeat(")", depth)
}

func TestP6Formulas(t *testing.T) {
	for _, f := range []string{
		"T", "a=0", "0#b", "3<a", "1=2", "a<b", "!T", "XT", "FT", "GT", "TUT", "TRT", "TWT", "T&T", "T|T", "(T)",
		"!X!F!GT", "!!T", "XXXXT", "!TUXT", "Xa=0Ub=1", "a=0Ub=1&a=1R(b=0)|TWT", "T&T|T&T", "T|T|T", "T&T&T", "TUT&TUT", "(TUT)UT", "TU(TUT)",
		"((T)|(T))&!(!(T))", "F(a=0&X(b=1))", "TU!X!T", nested(10), "(T)&" + nested(10) + "|" + nested(10), "a=0&b=1&a#2&0<1", strings.Repeat("(T)|", 14) + "TUT", strings.Repeat("!", 59) + "T",
	} {
		testFormula(t, twoNames, f, runs.OK, 0)
	}
	testFormula(t, "a1=0,b1=0,c1=0", "a=bUb=c", runs.OK, 0)
	testFormula(t, wide, "a=3", runs.OK, 0)
}

func TestP6Model(t *testing.T) {
	for _, model := range []string{"", "x", "a1=0;", "a1=012", "a1=0;:b=0", "a1=0;:a=0,a=0", wide + ";"} {
		e, p := wantCheck(model)
		for _, f := range []string{"T", "", "b=0", "XXXXXT", nested(11), strings.Repeat("(", 61)} {
			testFormula(t, model, f, e, p)
		}
	}
}

func TestP6Long(t *testing.T) {
	for _, end := range []string{"T", "(", "TUT"} {
		testFormula(t, twoNames, strings.Repeat("!", 61-len(end))+end, runs.ErrLong, 0)
	}
	testFormula(t, twoNames, strings.Repeat("x", 61), runs.ErrLong, 0)
	testFormula(t, twoNames, strings.Repeat("(", 1<<20), runs.ErrLong, 0)
	testFormula(t, twoNames, strings.Repeat("!", 60), runs.ErrText, 60)
	testFormula(t, twoNames, strings.Repeat("x", 60), runs.ErrText, 0)
	testFormula(t, twoNames, strings.Repeat("(", 60), runs.ErrText, 60)
	testFormula(t, twoNames, strings.Repeat("(", 29)+"T"+strings.Repeat(")", 30), runs.ErrText, 59)
}

func TestP6OnlyMoreBytes(t *testing.T) {
	for _, f := range []string{"", "!", "X", "F", "G", "(", "((", "a", "0", "a=", "a#", "0<", "(T", "((T)", "T&", "T|", "TU", "TR", "TW", "TUX", "TU(", "T&!", "(T|", "(a", "(a=0", "T&T|c", strings.Repeat("(T|", 13)} {
		testFormula(t, twoNames, f, runs.ErrText, len(f))
	}
}

func TestP6Text(t *testing.T) {
	for _, c := range []struct {
		formula string
		place   int
	}{
		{" T", 0}, {"T ", 1}, {"t", 0}, {"f", 0}, {"d=0", 0}, {"A=0", 0}, {"4=0", 0}, {"=", 0}, {"U", 0}, {"UT", 0}, {"&T", 0}, {"|T", 0}, {")", 0}, {"\x00", 0}, {"\xff", 0}, {"\u0422", 0},
		{"TT", 1}, {"T!", 1}, {"TX", 1}, {"T(", 1}, {"T)", 1}, {"Ta=0", 1}, {"T=T", 1}, {"TF", 1}, {"TG", 1}, {"T,", 1}, {"T;", 1}, {"T\n", 1},
		{"a>1", 1}, {"a==0", 2}, {"a!0", 1}, {"aa", 1}, {"00=0", 1}, {"aUb", 1}, {"a&b", 1}, {"a=T", 2}, {"a=4", 2}, {"a=d", 2}, {"a=(", 2}, {"a=?", 2}, {"a=!0", 2}, {"a=00", 3}, {"a=0b", 3}, {"a=0+1", 3}, {"a=0=0", 3}, {"a<b<c", 3}, {"a)", 1}, {"(a)", 2},
		{"TUTUT", 3}, {"TUTRT", 3}, {"TWTWT", 3}, {"TRTUT", 3}, {"TU!TUT", 4}, {"TU(T)UT", 5}, {"TUTU", 3}, {"(TUTUT)", 4}, {"T&TUTUT", 5}, {"TUT&TUTW", 7}, {"TUUT", 2}, {"TU&", 2}, {"T&&T", 2}, {"T||T", 2}, {"T&|T", 2}, {"T|&T", 2}, {"!&T", 1}, {"XUT", 1},
		{"()", 1}, {"(!)", 2}, {"(T))", 3}, {"(T)T", 3}, {"(T)(T)", 3}, {"(T)!", 3}, {"(T&)", 3}, {"(TU)", 3}, {"((T)", 4}, {"(a=)", 3}, {"T|)", 2}, {"((T))|(T)a", 9},
	} {
		testFormula(t, twoNames, c.formula, runs.ErrText, c.place)
	}
}

func TestP6Nest(t *testing.T) {
	testFormula(t, twoNames, nested(11), runs.ErrNest, 10)
	testFormula(t, twoNames, nested(12), runs.ErrNest, 10)
	testFormula(t, twoNames, nested(29), runs.ErrNest, 10)
	testFormula(t, twoNames, "!"+nested(11), runs.ErrNest, 11)
	testFormula(t, twoNames, nested(10)+"&"+nested(11), runs.ErrNest, 32)
	testFormula(t, twoNames, nested(11)+"|"+nested(12), runs.ErrNest, 10)
	testFormula(t, twoNames, strings.Repeat("(!", 11)+"T"+strings.Repeat(")", 11), runs.ErrNest, 20)
	testFormula(t, twoNames, "(T)|("+nested(10)+")", runs.ErrNest, 14)
	testFormula(t, twoNames, "((T)&"+nested(9)+"&"+nested(9)+")", runs.OK, 0)
}

func TestP6Name(t *testing.T) {
	testFormula(t, twoNames, "c=0", runs.ErrName, 0)
	testFormula(t, twoNames, "a=c", runs.ErrName, 2)
	testFormula(t, twoNames, "a=bU!(b<c|c=0)", runs.ErrName, 8)
	testFormula(t, "a1=0", "b=c", runs.ErrName, 0)
	testFormula(t, "a1=0", "a=0&c=b", runs.ErrName, 4)
	testFormula(t, "a1=0", "0=b", runs.ErrName, 2)
	testFormula(t, "a1=0,b1=0,c1=0", "a=bUb=c", runs.OK, 0)
}

func TestP6Weight(t *testing.T) {
	for _, sign := range []string{"X", "F", "G"} {
		testFormula(t, twoNames, strings.Repeat(sign, 4)+"T", runs.OK, 0)
		testFormula(t, twoNames, strings.Repeat(sign, 5)+"T", runs.ErrWeight, 0)
		testFormula(t, twoNames, strings.Repeat(sign+"T|", 4)+"T", runs.OK, 0)
		testFormula(t, twoNames, strings.Repeat(sign+"T|", 5)+"T", runs.ErrWeight, 0)
		testFormula(t, twoNames, strings.Repeat(sign, 59)+"T", runs.ErrWeight, 0)
	}
	for _, sign := range []string{"U", "R", "W"} {
		testFormula(t, twoNames, strings.Repeat("T"+sign+"T&", 4)+"T", runs.OK, 0)
		testFormula(t, twoNames, strings.Repeat("T"+sign+"T&", 5)+"T", runs.ErrWeight, 0)
		testFormula(t, twoNames, strings.Repeat("(", 4)+"T"+strings.Repeat(sign+"T)", 4), runs.OK, 0)
		testFormula(t, twoNames, strings.Repeat("(", 5)+"T"+strings.Repeat(sign+"T)", 5), runs.ErrWeight, 0)
	}
	testFormula(t, twoNames, "XFTUGT", runs.OK, 0)
	testFormula(t, twoNames, "XFTUGXT", runs.ErrWeight, 0)
	testFormula(t, twoNames, "X(TRT)&(TWT)UFT", runs.ErrWeight, 0)
	testFormula(t, twoNames, "!a=0&b=0|a#1&0<2|T&!(T&T)|!!!!!T", runs.OK, 0)
}

// Two that apply at once.
func TestP6Order(t *testing.T) {
	testFormula(t, twoNames, nested(11)+"&", runs.ErrText, 24)
	testFormula(t, twoNames, "c=0&", runs.ErrText, 4)
	testFormula(t, twoNames, "XXXXX", runs.ErrText, 5)
	testFormula(t, twoNames, "c=0|"+nested(11), runs.ErrNest, 14)
	testFormula(t, twoNames, nested(11)+"|c=0", runs.ErrNest, 10)
	testFormula(t, twoNames, "XXXXX"+nested(11), runs.ErrNest, 15)
	testFormula(t, twoNames, "XXXXXc=0", runs.ErrName, 5)
	testFormula(t, twoNames, "c=0|XXXXXT", runs.ErrName, 0)
	testFormula(t, "a1=0", "XXXXXb=c|"+nested(11), runs.ErrNest, 19)
}

func formulaAgainstOracle(t *testing.T, model, formula string) {
	t.Helper()
	e, p := wantFormula(model, formula)
	testFormula(t, model, formula, e, p)
}

func TestP6EveryByteElsewhere(t *testing.T) {
	formulas := []string{"!(a=0Ub#1)&X(T|F0<a)", "G(a=2|XT)RF(b=1)", "((((((((((a=bW(T))))))))))", "XXXTU(T&!T)|a=0&b=0"}
	some := "!XFGTURW&|()=#<03abcd4 \x00\xff"
	for _, f := range formulas {
		for i := 0; i <= len(f); i++ {
			formulaAgainstOracle(t, twoNames, f[:i])
			for _, c := range []byte(some) {
				formulaAgainstOracle(t, twoNames, f[:i]+string([]byte{c})+f[i:])
				if i < len(f) {
					formulaAgainstOracle(t, twoNames, f[:i]+string([]byte{c})+f[i+1:])
				}
			}
			if i < len(f) {
				formulaAgainstOracle(t, twoNames, f[:i]+f[i+1:])
			}
		}
	}
}

func TestP6AllShortTexts(t *testing.T) {
	texts := []string{""}
	for range 4 {
		var longer []string
		for _, text := range texts {
			for _, c := range "T!GUW&|()c=0" {
				longer = append(longer, text+string(c))
			}
		}
		for _, text := range longer {
			formulaAgainstOracle(t, twoNames, text)
		}
		texts = longer
	}
}

func TestP6Faulty(t *testing.T) {
	w := newWriter(true)
	seen := map[runs.Errno]int{}
	for range 6000 {
		model := w.model()
		f := w.formula(model)
		if w.dice.Intn(8) == 0 {
			f = nested(w.dice.Intn(14)) + "&" + f
		}
		if w.dice.Intn(8) == 0 {
			i := w.dice.Intn(len(f))
			f = f[:i] + f[i+1:]
		}
		e, p := wantFormula(model, f)
		if ec, _ := wantCheck(model); ec == runs.OK {
			seen[e]++
		}
		testFormula(t, model, f, e, p)
	}
	for _, e := range []runs.Errno{runs.OK, runs.ErrLong, runs.ErrText, runs.ErrNest, runs.ErrName, runs.ErrWeight} {
		if seen[e] < 20 {
			t.Errorf("only %d formulas with %d", seen[e], e)
		}
	}
}
