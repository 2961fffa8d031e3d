package pin

import (
	"slices"
	"testing"

	"cairnfield/api"
)

// callAll calls each function and returns the errors. With an error the other
// results must be zero values.
func callAll(t *testing.T, p []api.Pin, at int) []api.Errno {
	t.Helper()
	errors := []api.Errno{Check(p)}
	for _, a := range []answer{added(p, at), dropped(p, at), counted(p, at)} {
		if a.e != api.OK && (len(a.p) != 0 || a.many != 0) {
			t.Errorf("%v, %d: results with an error: %v", p, at, a)
		}
		errors = append(errors, a.e)
	}
	return errors
}

// A panic in one of these calls fails the test.
func TestNoPanicP1(t *testing.T) {
	for _, at := range numbers() {
		for _, v := range numbers() {
			for _, many := range numbers() {
				callAll(t, []api.Pin{{At: v, Many: many}}, at)
				callAll(t, []api.Pin{{At: 1, Many: 1}, {At: v, Many: many}}, at)
				callAll(t, []api.Pin{{At: v, Many: 1}, {At: 1, Many: many}}, at)
			}
		}
		callAll(t, nil, at)
		callAll(t, make([]api.Pin, 100000), at)
		callAll(t, row(16, 0, 1), at)
	}
}

// sample is a list of three pins, with more behind it.
func sample() []api.Pin {
	return []api.Pin{{At: 2, Many: 1}, {At: 4, Many: 2}, {At: 6, Many: 1}, {At: 70, Many: 71}, {At: 80, Many: 81}}
}

// makers are the functions that return a list, with arguments that are valid
// for the first three pins of sample.
func makers() []func(p []api.Pin) answer {
	return []func(p []api.Pin) answer{
		func(p []api.Pin) answer { return added(p, 0) },
		func(p []api.Pin) answer { return added(p, 4) },
		func(p []api.Pin) answer { return added(p, 5) },
		func(p []api.Pin) answer { return added(p, 255) },
		func(p []api.Pin) answer { return dropped(p, 2) },
		func(p []api.Pin) answer { return dropped(p, 4) },
		func(p []api.Pin) answer { return dropped(p, 6) },
	}
}

// scribble overwrites the memory of a list, its capacity too.
func scribble(p []api.Pin) {
	p = p[:cap(p)]
	for i := range p {
		p[i] = api.Pin{At: 99, Many: 99}
	}
}

func TestArgumentsUnchangedP2(t *testing.T) {
	for i, call := range makers() {
		p := sample()
		got := call(p[:3])
		if got.e != api.OK || !slices.Equal(p, sample()) {
			t.Errorf("%d: %v, argument %v", i, got, p)
		}
		scribble(got.p)
		if !slices.Equal(p, sample()) {
			t.Errorf("%d: the result shares memory with the argument", i)
		}
	}
	p := sample()
	for at := -1; at <= api.MaxWords; at++ {
		for n := range len(p) + 1 {
			callAll(t, p[:n], at)
		}
	}
	if !slices.Equal(p, sample()) {
		t.Error(p)
	}
}

func TestResultsAreNewP2(t *testing.T) {
	for i, call := range makers() {
		p := sample()
		got := call(p[:3]).p
		want := slices.Clone(got)
		scribble(p)
		again := call(sample()[:3]).p
		if !slices.Equal(got, want) || !slices.Equal(again, want) {
			t.Errorf("%d: %v, %v, not %v", i, got, again, want)
		}
		scribble(again)
		if !slices.Equal(got, want) {
			t.Errorf("%d: results of two calls share memory", i)
		}
	}
}

func TestNilIsEmptyP3(t *testing.T) {
	for _, at := range numbers() {
		for i, call := range []func(p []api.Pin, at int) answer{added, dropped, counted} {
			if with, empty := call(nil, at), call([]api.Pin{}, at); !with.equals(empty) {
				t.Errorf("%d: nil and empty pins differ for %d: %v, %v", i, at, with, empty)
			}
		}
	}
	if Check([]api.Pin{}) != api.OK {
		t.Error("no pins")
	}
}

// Pins in the capacity of a list do not belong to it.
func TestCapacityDoesNotCountP3(t *testing.T) {
	p := sample()
	if got := counted(p[:3], 70); !got.equals(answer{}) {
		t.Error(got)
	}
	if got := dropped(p[:3], 70); !got.equals(answer{e: api.ErrNone}) {
		t.Error(got)
	}
	if got := added(p[:3], 70); len(got.p) != 4 || got.many != 1 || got.e != api.OK {
		t.Error(got)
	}
	wide := append(row(16, 0, 1), make([]api.Pin, 5)...)
	if e := Check(wide[:16]); e != api.OK {
		t.Error(e)
	}
}

// With an error of Check all functions return it, whatever the word is.
func TestErrorOfCheckFirstP3(t *testing.T) {
	eachPins(func(p []api.Pin) {
		for _, at := range []int{-1, 0, 1, 3, 255, 256} {
			errors := callAll(t, p, at)
			if want := checkError(p); want != api.OK && !slices.Equal(errors, []api.Errno{want, want, want, want}) {
				t.Errorf("%v, %d: errors %v, not %d", p, at, errors, want)
			}
		}
	})
	for _, at := range numbers() {
		want := []api.Errno{api.ErrLarge, api.ErrLarge, api.ErrLarge, api.ErrLarge}
		if errors := callAll(t, make([]api.Pin, 17), at); !slices.Equal(errors, want) {
			t.Errorf("17 pins, %d: errors %v", at, errors)
		}
	}
}
