package root

import (
	"slices"
	"testing"

	"cairnfield/api"
)

// callAll calls each function and returns the errors. With an error the other
// results must be zero values.
func callAll(t *testing.T, r []int, n, slot, v int, to []int) []api.Errno {
	t.Helper()
	e1 := Check(r, n)
	set, e2 := Set(r, n, slot, v)
	named, e3 := Named(r, n)
	swap, e4 := Swap(r, n, to)
	if e2 != api.OK && len(set) != 0 || e3 != api.OK && len(named) != 0 || e4 != api.OK && len(swap) != 0 {
		t.Errorf("%v, %d, %d, %d, %v: results with an error", r, n, slot, v, to)
	}
	return []api.Errno{e1, e2, e3, e4}
}

// A panic in one of these calls fails the test.
func TestNoPanicP1(t *testing.T) {
	for _, n := range numbers(3) {
		for _, v := range numbers(3) {
			for _, slot := range numbers(3) {
				callAll(t, []int{v}, n, slot, v, []int{slot})
				callAll(t, []int{-1, 0, v}, n, slot, v, []int{0, 1, slot})
				callAll(t, []int{slot, v}, n, 0, v, nil)
				callAll(t, nil, n, slot, v, []int{v, slot})
			}
		}
		callAll(t, make([]int, 100000), n, 32, 0, make([]int, 100000))
		callAll(t, make([]int, 32), n, 31, 0, make([]int, 256))
	}
}

// sample is a list of four roots of five words, with more behind it.
func sample() []int {
	return []int{4, -1, 2, 4, 70, 71, 72, 73}
}

// sampleTo is a table of five words, with more behind it.
func sampleTo() []int {
	return []int{1, 0, 3, 2, -1, 80, 81}
}

// makers are the functions that return a list, with arguments that are valid
// for the first four numbers of sample and the first five of sampleTo.
func makers() []func(r, to []int) ([]int, api.Errno) {
	return []func(r, to []int) ([]int, api.Errno){
		func(r, to []int) ([]int, api.Errno) { return Set(r, 5, 1, 3) },
		func(r, to []int) ([]int, api.Errno) { return Set(r, 5, 0, 4) }, // no change
		func(r, to []int) ([]int, api.Errno) { return Named(r, 5) },
		func(r, to []int) ([]int, api.Errno) { return Swap(r, 5, to) },
	}
}

// scribble overwrites the memory of a list, its capacity too.
func scribble(l []int) {
	l = l[:cap(l)]
	for i := range l {
		l[i] = 99
	}
}

func TestArgumentsUnchangedP2(t *testing.T) {
	for i, call := range makers() {
		r, to := sample(), sampleTo()
		got, e := call(r[:4], to[:5])
		if e != api.OK || !slices.Equal(r, sample()) || !slices.Equal(to, sampleTo()) {
			t.Errorf("%d: error %d, arguments %v, %v", i, e, r, to)
		}
		scribble(got)
		if !slices.Equal(r, sample()) || !slices.Equal(to, sampleTo()) {
			t.Errorf("%d: the result shares memory with an argument", i)
		}
	}
	r, to := sample(), sampleTo()
	for n := 3; n <= 6; n++ {
		callAll(t, r[:4], n, 4, 0, to[:5])
		callAll(t, r[:5], n, 0, 9, to[:6])
	}
	if !slices.Equal(r, sample()) || !slices.Equal(to, sampleTo()) {
		t.Error(r, to)
	}
}

func TestResultsAreNewP2(t *testing.T) {
	for i, call := range makers() {
		r, to := sample(), sampleTo()
		got, _ := call(r[:4], to[:5])
		want := slices.Clone(got)
		scribble(r)
		scribble(to)
		again, _ := call(sample()[:4], sampleTo()[:5])
		if !slices.Equal(got, want) || !slices.Equal(again, want) {
			t.Errorf("%d: %v, %v, not %v", i, got, again, want)
		}
		scribble(again)
		if !slices.Equal(got, want) {
			t.Errorf("%d: results of two calls share memory", i)
		}
	}
}

// Already sorted roots without duplicates are copied, too.
func TestNamedIsNewP2(t *testing.T) {
	r := []int{0, 2, 4}
	got, _ := Named(r, 5)
	scribble(got)
	if !slices.Equal(r, []int{0, 2, 4}) {
		t.Error(r)
	}
}

func TestNilIsEmptyP3(t *testing.T) {
	for _, n := range numbers(2) {
		for _, slot := range []int{-1, 0, 1} {
			for _, r := range [][]int{{}, {-1}, {0}} {
				with := callAll(t, r, n, slot, 0, nil)
				if empty := callAll(t, r, n, slot, 0, []int{}); !slices.Equal(with, empty) {
					t.Errorf("nil and empty tables differ for %v, %d: %v, %v", r, n, with, empty)
				}
			}
			to := make([]int, 2)
			with := callAll(t, nil, n, slot, 0, to)
			if empty := callAll(t, []int{}, n, slot, 0, to); !slices.Equal(with, empty) {
				t.Errorf("nil and empty roots differ for %d, %d: %v, %v", n, slot, with, empty)
			}
		}
	}
}

// Numbers in the capacity of a list do not belong to it.
func TestCapacityDoesNotCountP3(t *testing.T) {
	r, to := sample(), sampleTo()
	if e := Check(r[:4], 5); e != api.OK {
		t.Error(e)
	}
	if _, e := Set(r[:4], 5, 4, 0); e != api.ErrNone {
		t.Error(e)
	}
	if got, e := Named(r[:3], 80); !slices.Equal(got, []int{2, 4}) || e != api.OK {
		t.Error(got, e)
	}
	if _, e := Swap(r[:4], 5, to[:4]); e != api.ErrForm {
		t.Error(e)
	}
}

// With an error of Check all functions return it, whatever the rest is.
func TestErrorOfCheckFirstP3(t *testing.T) {
	eachRoots(func(r []int, n int) {
		for _, to := range [][]int{nil, {0}, {9, 9, 9}} {
			for _, slot := range []int{-1, 0, 5} {
				errors := callAll(t, r, n, slot, 9, to)
				if want := checkError(r, n); want != api.OK && !slices.Equal(errors, []api.Errno{want, want, want, want}) {
					t.Errorf("%v, %d, %d, %v: errors %v, not %d", r, n, slot, to, errors, want)
				}
			}
		}
	})
}
