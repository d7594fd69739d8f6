package runs_test

import (
	"strings"
	"testing"

	"runs/runs"
)

// wide has 120 bytes, as many as a model may have.
var wide = "a1=0;" + strings.Repeat("a=0&", 27) + "a=0:a=1"

func testCheck(t *testing.T, model string, want runs.Errno, place int) {
	t.Helper()
	if e, p := runs.Check(model); e != want || p != place {
		t.Errorf("Check(%.130q) = %d %d, want %d %d", model, e, p, want, place)
	}
}

func TestErrnoNumbers(t *testing.T) {
	for want, e := range []runs.Errno{runs.OK, runs.ErrLong, runs.ErrText, runs.ErrName, runs.ErrValue, runs.ErrTwice, runs.ErrNest, runs.ErrWeight, runs.ErrState, runs.ErrLoop, runs.ErrRun} {
		if int(e) != want {
			t.Errorf("the error number %d is %d", want, e)
		}
	}
}

func TestP3Models(t *testing.T) {
	for _, model := range []string{
		"a1=0", "a2=2", "a3=0123", "a3=03", "a1=1,b2=02", "a1=0,b2=12,c3=3",
		"a1=0;:a=1", "a1=0;:a=?", "a1=0;:a=3", "a1=0;:a=a", "a1=0;:a=3+3", "a1=0;:a=a+0",
		"a1=0;a=0:a=1", "a1=0;3#a:a=1", "a1=0;a<a:a=1", "a1=0;0=0&a#1&1<2:a=1",
		"a1=0,b1=0,c1=0;:c=a,a=b+1,b=?", "a1=0;:a=1;:a=1", "a1=0,b1=0;:a=1,b=1;:b=1,a=1",
		"a1=0" + strings.Repeat(";:a=1", 8), wide,
	} {
		testCheck(t, model, runs.OK, 0)
	}
}

func TestP3Long(t *testing.T) {
	if len(wide) != 120 {
		t.Fatalf("%d bytes", len(wide))
	}
	testCheck(t, "a1=01"+wide[4:], runs.ErrLong, 0)
	testCheck(t, wide+";", runs.ErrLong, 0)
	testCheck(t, strings.Repeat("x", 121), runs.ErrLong, 0)
	testCheck(t, strings.Repeat("x", 120), runs.ErrText, 0)
	testCheck(t, wide[:119], runs.ErrText, 119)
	testCheck(t, wide[:5]+"0=0&"+wide[5:116], runs.ErrText, 120)
}

func TestP3Text(t *testing.T) {
	for _, c := range []struct {
		model string
		place int
	}{
		{"A1=0", 0}, {" a1=0", 0}, {"c1=0", 0}, {";:a=0", 0}, {"a=0", 1}, {"a1:0", 2}, {"a1=", 3}, {"a1=4", 3}, {"a1=a", 3}, {"a1=;", 3},
		{"a3=00", 4}, {"a3=021", 5}, {"a3=0123 ", 7}, {"a3=31", 4}, {"a1=0 ", 4}, {"a1=0\n", 4}, {"a1=0\x00", 4}, {"a1=0\xff", 4},
		{"a1=0,a1=0", 5}, {"a1=0,b1=0,b1=0", 10}, {"a1=0,b1=0,", 10}, {"a1=0,b1=0,c1=0,", 14}, {"a1=0,;:a=0", 5},
		{"a1=0:a=1", 4}, {"a1=0;;", 5}, {"a1=0;?", 5}, {"a1=0;a", 6}, {"a1=0;a:", 6}, {"a1=0;a=", 7}, {"a1=0;a=0", 8}, {"a1=0;a=0;", 8},
		{"a1=0;a=0&", 9}, {"a1=0;a=0&:a=1", 9}, {"a1=0;a=4:a=1", 7}, {"a1=0;a=?:a=1", 7}, {"a1=0;a=0+1:a=1", 8}, {"a1=0;&a=0:a=1", 5},
		{"a1=0;:0=1", 6}, {"a1=0;:d=1", 6}, {"a1=0;:a", 7}, {"a1=0;:a#1", 7}, {"a1=0;:a<1", 7}, {"a1=0;:a=", 8}, {"a1=0;:a=4", 8}, {"a1=0;:a=d", 8},
		{"a1=0;:a=1+", 10}, {"a1=0;:a=1+a", 10}, {"a1=0;:a=1+1+1", 11}, {"a1=0;:a=??", 9}, {"a1=0;:a=11", 9}, {"a1=0;:a=1,", 10}, {"a1=0;:a=1,;", 10}, {"a1=0;:a=1;", 10},
		{"a1=0;:a=1:a=1", 9}, {"a1=0;:a=1&a=1", 9}, {"a1=0\u0660", 4}, {"\u0430", 0},
		{"a1=0" + strings.Repeat(";:a=1", 8) + ";", 44}, {"a1=0" + strings.Repeat(";:a=1", 7) + ";", 40},
	} {
		testCheck(t, c.model, runs.ErrText, c.place)
	}
}

func TestP3Faults(t *testing.T) {
	for _, c := range []struct {
		model string
		want  runs.Errno
		place int
	}{
		{"a1=0;b=0:a=1", runs.ErrName, 5}, {"a1=0;0=b:a=1", runs.ErrName, 7}, {"a1=0;:a=b", runs.ErrName, 8}, {"a1=0;:a=c+1", runs.ErrName, 8},
		{"a1=0,b1=0;:c=1", runs.ErrName, 11}, {"a1=0;:a=1;b=0:a=1", runs.ErrName, 10},
		{"a1=2", runs.ErrValue, 3}, {"a1=3", runs.ErrValue, 3}, {"a2=3", runs.ErrValue, 3}, {"a1=0123", runs.ErrValue, 5}, {"a2=0123", runs.ErrValue, 6}, {"a3=3,b1=12", runs.ErrValue, 9},
		{"a1=0;:a=1,a=1", runs.ErrTwice, 10}, {"a1=0,b1=0;:a=1,b=1,a=?", runs.ErrTwice, 19}, {"a1=0;:a=1;:a=1,a=1,a=1", runs.ErrTwice, 15},
	} {
		testCheck(t, c.model, c.want, c.place)
	}
}

// Two that apply at once: the text comes ahead of all faults, and of these the first one in the text counts, whatever it is.
func TestP3Order(t *testing.T) {
	for _, c := range []struct {
		model string
		want  runs.Errno
		place int
	}{
		{"a1=2;", runs.ErrText, 5}, {"a1=0;:b=1,", runs.ErrText, 10}, {"a1=0;:a=1,a=1;x", runs.ErrText, 14},
		{"a1=2;:b=1", runs.ErrValue, 3}, {"a1=0,b1=3;c=0:a=0,a=0", runs.ErrValue, 8},
		{"a1=0;b=0:a=0,a=0", runs.ErrName, 5}, {"a1=0;:b=0,b=0", runs.ErrName, 6}, {"a1=0;:a=b,a=0", runs.ErrName, 8},
		{"a1=0;:a=0,a=b", runs.ErrTwice, 10}, {"a1=0;:a=0,a=0;:b=0", runs.ErrTwice, 10},
	} {
		testCheck(t, c.model, c.want, c.place)
	}
}

func againstOracle(t *testing.T, model string) {
	t.Helper()
	e, p := wantCheck(model)
	testCheck(t, model, e, p)
}

func TestP3EveryByteElsewhere(t *testing.T) {
	models := []string{
		"a2=0,b1=01;a<2:a=a+1;a=2:a=0,b=?;b=1&a=1:b=0",
		"a1=0,b2=012,c3=3;:c=?,a=b+3;0#c&a<b:b=1",
		"a1=0" + strings.Repeat(";:a=1", 8),
	}
	some := "abcd01234=,;:&#<+? A\x00\xff"
	for _, m := range models {
		for i := 0; i <= len(m); i++ {
			againstOracle(t, m[:i])
			for _, c := range []byte(some) {
				againstOracle(t, m[:i]+string([]byte{c})+m[i:])
				if i < len(m) {
					againstOracle(t, m[:i]+string([]byte{c})+m[i+1:])
				}
			}
			if i < len(m) {
				againstOracle(t, m[:i]+m[i+1:])
			}
		}
	}
}

func TestP3Faulty(t *testing.T) {
	w := newWriter(true)
	seen := map[runs.Errno]int{}
	for range 4000 {
		model := w.model()
		e, _ := wantCheck(model)
		seen[e]++
		againstOracle(t, model)
	}
	for _, e := range []runs.Errno{runs.OK, runs.ErrName, runs.ErrValue, runs.ErrTwice} {
		if seen[e] < 100 {
			t.Errorf("only %d models with %d", seen[e], e)
		}
	}
}
