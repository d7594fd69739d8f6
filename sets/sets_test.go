package sets_test

import (
	"slices"
	"testing"

	"runs/sets"
)

type small uint8
type large uint64

func checkSets[S sets.Bits](t *testing.T, size int) {
	t.Helper()
	for n := range size {
		one := sets.With(S(0), n)
		for k := -2; k < size+2; k++ {
			if sets.Has(one, k) != (k == n) {
				t.Errorf("of %d: Has({%d}, %d) = %v", size, n, k, sets.Has(one, k))
			}
		}
		if got := slices.Collect(sets.Members(one)); !slices.Equal(got, []int{n}) {
			t.Errorf("of %d: Members({%d}) = %v", size, n, got)
		}
	}
	for n := 0; n <= size; n++ {
		var want []int
		for k := range n {
			want = append(want, k)
		}
		if got := slices.Collect(sets.Members(sets.Below[S](n))); !slices.Equal(got, want) {
			t.Errorf("of %d: Members(Below(%d)) = %v", size, n, got)
		}
	}
}

func TestSmallSets(t *testing.T) { checkSets[small](t, 8) }

func TestLargeSets(t *testing.T) { checkSets[large](t, 64) }

func TestWithKeepsWhatIsThere(t *testing.T) {
	set := sets.With(sets.With(sets.With(large(0), 63), 5), 5)
	if got := slices.Collect(sets.Members(set)); !slices.Equal(got, []int{5, 63}) {
		t.Errorf("got %v", got)
	}
}

func TestWithout(t *testing.T) {
	set := sets.Without(sets.Without(sets.Below[large](64), 63), 0)
	if got := slices.Collect(sets.Members(sets.Without(set, 63))); len(got) != 62 || got[0] != 1 || got[61] != 62 {
		t.Errorf("got %v", got)
	}
	for n := -1; n < 9; n++ {
		if got := sets.Without(sets.With(small(0), n), n); got != 0 {
			t.Errorf("Without({%d}, %d) = %d", n, n, got)
		}
	}
}

func TestNumbersWithoutABit(t *testing.T) {
	for _, n := range []int{-1, 8} {
		if got := sets.Without(small(3), n); got != 3 {
			t.Errorf("Without(3, %d) = %d", n, got)
		}
	}
	if got := sets.With(small(3), -1); got != 3 {
		t.Errorf("With(3, -1) = %d", got)
	}
	if got := sets.With(small(3), 8); got != 3 {
		t.Errorf("With(3, 8) = %d", got)
	}
	if got := sets.Below[large](-1); got != 0 {
		t.Errorf("Below(-1) = %d", got)
	}
}

func TestMembersStops(t *testing.T) {
	var got []int
	for n := range sets.Members(small(0b1011)) {
		got = append(got, n)
		if n == 1 {
			break
		}
	}
	if !slices.Equal(got, []int{0, 1}) {
		t.Errorf("got %v", got)
	}
}
