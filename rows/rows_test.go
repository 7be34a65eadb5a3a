package rows

import (
	"fmt"
	"slices"
	"testing"

	"gatepost/api"
)

func numbers(from, to int) (l []int) {
	for i := from; i < to; i++ {
		l = append(l, i)
	}
	return l
}

func wantRow(t *testing.T, what string, got, want []int) {
	t.Helper()
	if !slices.Equal(got, want) {
		t.Errorf("%s = %v; want %v", what, got, want)
	}
}

// TestRenewed: x is the last one; the first ones go where there are too many.
func TestRenewed(t *testing.T) {
	none := func(int) bool { return false }
	wantRow(t, "of none", Renewed(nil, 7, none), []int{7})
	var row []int
	for i := range 3 * api.MaxEntries {
		row = Renewed(row, i, none)
		wantRow(t, fmt.Sprint("of numbers up to ", i), row, numbers(max(0, i+1-api.MaxEntries), i+1))
	}
	wantRow(t, "of far too many", Renewed(numbers(0, 100), 100, none), numbers(101-api.MaxEntries, 101))
}

// TestRenewedInPlace: what x takes the place of goes first, so that nothing else has to; it may be many, or all.
func TestRenewedInPlace(t *testing.T) {
	full := api.MaxEntries
	for i := range full {
		want := append(slices.Delete(numbers(0, full), i, i+1), 99)
		wantRow(t, fmt.Sprint("in the place of ", i), Renewed(numbers(0, full), 99, func(n int) bool { return n == i }), want)
	}
	wantRow(t, "in the place of all", Renewed(numbers(0, full), 99, func(int) bool { return true }), []int{99})
	wantRow(t, "in the place of even ones", Renewed(numbers(0, full), 99, func(n int) bool { return n%2 == 0 }), []int{1, 3, 5, 7, 99})
}
