package spot

import (
	"math"
	"slices"
	"testing"

	"cairnfield/api"
)

// callAll calls each function with the same arguments and returns the errors.
// With an error the other results must be zero values.
func callAll(t *testing.T, m []uint64, n, at, long int) []api.Errno {
	t.Helper()
	e1 := Check(m, n)
	set, e2 := Set(m, n, at, long, true)
	cleared, e3 := Set(m, n, at, long, false)
	is, e4 := Has(m, n, at)
	k, found, e5 := Next(m, n, at, true)
	l, lost, e6 := Next(m, n, at, false)
	count, e7 := Count(m, n, at, long)
	runs, e8 := Runs(m, n)
	if e2 != api.OK && len(set) != 0 || e3 != api.OK && len(cleared) != 0 {
		t.Errorf("Set(%d words, %d, %d): %v, %v, errors %d, %d", n, at, long, set, cleared, e2, e3)
	}
	if e4 != api.OK && is || e7 != api.OK && count != 0 || e8 != api.OK && len(runs) != 0 {
		t.Errorf("%d words, %d, %d: %t, %d, %v, errors %d, %d, %d", n, at, long, is, count, runs, e4, e7, e8)
	}
	if e5 != api.OK && (k != 0 || found) || e6 != api.OK && (l != 0 || lost) {
		t.Errorf("Next(%d words, %d): %d, %d, errors %d, %d", n, at, k, l, e5, e6)
	}
	return []api.Errno{e1, e2, e3, e4, e5, e6, e7, e8}
}

// A panic in one of these calls fails the test.
func TestNoPanicP1(t *testing.T) {
	for _, long := range []int{0, 1, 2, 4, 5} {
		m := make([]uint64, long)
		for i := range m {
			m[i] = math.MaxUint64
		}
		for _, n := range append(edges(70), 128, 255) {
			for _, at := range edges(70) {
				for _, count := range edges(70) {
					callAll(t, m, n, at, count)
				}
			}
		}
	}
}

func TestArgumentsUnchangedP2(t *testing.T) {
	start := []uint64{math.MaxUint64, 1, 6, 7, 8}
	whole := slices.Clone(start)
	m := whole[:2]
	for _, on := range []bool{false, true} {
		for _, long := range []int{0, 2, 65, 66} {
			got, e := Set(m, 66, 0, long, on)
			if e != api.OK || !slices.Equal(whole, start) {
				t.Errorf("Set of %d marks: error %d, argument %v", long, e, whole)
			}
			got = got[:cap(got)]
			for i := range got {
				got[i] = 77
			}
			if !slices.Equal(whole, start) {
				t.Errorf("Set of %d marks shares memory with the argument", long)
			}
		}
	}
	callAll(t, m, 66, 3, 61)
	callAll(t, m, 66, 3, 64)
	callAll(t, m, 65, 3, 61)
	if !slices.Equal(whole, start) {
		t.Error(whole)
	}
}

func TestResultsAreNewP2(t *testing.T) {
	m := []uint64{6, 1}
	set, _ := Set(m, 66, 0, 1, true)
	runs, _ := Runs(m, 66)
	clear(m)
	other, _ := Set([]uint64{6, 1}, 66, 0, 1, true)
	clear(other)
	more, _ := Runs([]uint64{6, 1}, 66)
	clear(more)
	if !slices.Equal(set, []uint64{7, 1}) || !slices.Equal(runs, []api.Run{{At: 1, Long: 2}, {At: 64, Long: 1}}) {
		t.Error(set, runs)
	}
}

func TestNilIsEmptyP3(t *testing.T) {
	for _, n := range edges(0) {
		for _, at := range edges(0) {
			for _, long := range []int{-1, 0, 1} {
				if !slices.Equal(callAll(t, nil, n, at, long), callAll(t, []uint64{}, n, at, long)) {
					t.Errorf("nil and empty differ for %d, %d, %d", n, at, long)
				}
			}
		}
	}
}

// Words in the capacity of the marks are no marks.
func TestCapacityHasNoMarksP3(t *testing.T) {
	m := []uint64{1, 1, 1}
	if e := Check(m[:1], 65); e != api.ErrForm {
		t.Error(e)
	}
	if k, is, e := Next(m[:1], 64, 1, true); k != 64 || is || e != api.OK {
		t.Error(k, is, e)
	}
}
