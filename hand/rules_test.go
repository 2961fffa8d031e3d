package hand

import (
	"slices"
	"testing"

	"cairnfield/api"
)

// callAll calls each function that takes handles and returns the errors. With
// an error the other results must be zero values.
func callAll(t *testing.T, h api.Hands, at int, name uint64, to []int) []api.Errno {
	t.Helper()
	errors := []api.Errno{Check(h)}
	for i, a := range []answer{opened(h, at), looked(h, name), closed(h, name), swapped(h, to), live(h)} {
		if a.e != api.OK && !a.equals(answer{e: a.e}) {
			t.Errorf("%d: %v, %d, %d, %v: results with an error: %v", i, h, at, name, to, a)
		}
		errors = append(errors, a.e)
	}
	return errors
}

// A panic in one of these calls fails the test.
func TestNoPanicP1(t *testing.T) {
	for _, v := range numbers() {
		New(v)
		for _, gen := range numbers() {
			for _, at := range numbers() {
				to := slices.Repeat([]int{at}, 256)
				callAll(t, api.Hands{{Gen: gen, At: v}}, at, uint64(gen), to)
				callAll(t, api.Hands{open(gen, v)}, at, uint64(gen)<<16, to)
				callAll(t, api.Hands{open(1, 1), open(gen, v)}, at, uint64(gen)<<16+1, []int{at})
			}
		}
	}
	for _, name := range names() {
		callAll(t, nil, 0, name, nil)
		callAll(t, row(16, open(1, 255)), 0, name, make([]int, 256))
		callAll(t, make(api.Hands, 100000), 0, name, make([]int, 100000))
	}
}

// sample has four slots, with more behind them.
func sample() api.Hands {
	return api.Hands{open(3, 30), shut(2), open(1, 10), shut(0), open(8, 80), open(9, 90)}
}

// sampleTo is a table of all words, with more behind it.
func sampleTo() []int {
	return append(reversed(), 70, 71)
}

// makers are the functions that return handles, with arguments that are valid
// for the first four slots of sample and the first 256 numbers of sampleTo.
func makers() []func(h api.Hands, to []int) answer {
	return []func(h api.Hands, to []int) answer{
		func(h api.Hands, to []int) answer { return opened(h, 7) },
		func(h api.Hands, to []int) answer { return closed(h, 3*65536) },
		func(h api.Hands, to []int) answer { return closed(h, 65536+2) },
		func(h api.Hands, to []int) answer { return swapped(h, to) },
		func(h api.Hands, to []int) answer { return swapped(h, identity()) }, // no change
		func(h api.Hands, to []int) answer { return live(h) },
	}
}

// scribble overwrites the memory of a list, its capacity too.
func scribble[T any](l []T, v T) {
	l = l[:cap(l)]
	for i := range l {
		l[i] = v
	}
}

// spoil overwrites the memory of a result.
func spoil(a answer) {
	scribble(a.h, open(99, 99))
	scribble(a.names, 99)
}

func TestArgumentsUnchangedP2(t *testing.T) {
	for i, call := range makers() {
		h, to := sample(), sampleTo()
		got := call(h[:4], to[:256])
		if got.e != api.OK || !slices.Equal(h, sample()) || !slices.Equal(to, sampleTo()) {
			t.Errorf("%d: %v, arguments %v, %v", i, got, h, to)
		}
		spoil(got)
		if !slices.Equal(h, sample()) || !slices.Equal(to, sampleTo()) {
			t.Errorf("%d: the result shares memory with an argument", i)
		}
	}
	h, to := sample(), sampleTo()
	for _, name := range names() {
		for n := range len(h) + 1 {
			callAll(t, h[:n], 5, name, to[:256])
			callAll(t, h[:n], 256, name, to[:255])
		}
	}
	if !slices.Equal(h, sample()) || !slices.Equal(to, sampleTo()) {
		t.Error(h, to)
	}
}

func TestResultsAreNewP2(t *testing.T) {
	for i, call := range makers() {
		h, to := sample(), sampleTo()
		got := call(h[:4], to[:256])
		want := call(sample()[:4], sampleTo()[:256])
		scribble(h, open(99, 99))
		scribble(to, 99)
		again := call(sample()[:4], sampleTo()[:256])
		if !got.equals(want) || !again.equals(want) {
			t.Errorf("%d: %v, %v, not %v", i, got, again, want)
		}
		spoil(again)
		if !got.equals(want) {
			t.Errorf("%d: results of two calls share memory", i)
		}
	}
	one, _ := New(16)
	two, _ := New(16)
	scribble(one, open(99, 99))
	if three, _ := New(16); !slices.Equal(two, row(16, shut(0))) || !slices.Equal(three, two) {
		t.Error("results of New share memory")
	}
}

func TestNilIsEmptyP3(t *testing.T) {
	for _, to := range [][]int{nil, {0}, identity()} {
		for _, at := range []int{-1, 0, 256} {
			with := callAll(t, nil, at, 65536, to)
			if empty := callAll(t, api.Hands{}, at, 65536, to); !slices.Equal(with, empty) {
				t.Errorf("nil and empty handles differ for %d: %v, %v", at, with, empty)
			}
		}
	}
	for _, h := range []api.Hands{nil, {shut(0)}, {open(1, 0)}, {open(0, 0)}} {
		with := callAll(t, h, 0, 65536, nil)
		if empty := callAll(t, h, 0, 65536, []int{}); !slices.Equal(with, empty) {
			t.Errorf("nil and empty tables differ for %v: %v, %v", h, with, empty)
		}
	}
}

// Slots and numbers in the capacity of a list do not belong to it.
func TestCapacityDoesNotCountP3(t *testing.T) {
	h, to := sample(), sampleTo()
	same(t, "Look", h[:4], 8*65536+4, looked(h[:4], 8*65536+4), answer{e: api.ErrStale})
	same(t, "Close", h[:4], 8*65536+4, closed(h[:4], 8*65536+4), answer{e: api.ErrStale})
	same(t, "Live", h[:4], nil, live(h[:4]), answer{names: []uint64{3 * 65536, 65536 + 2}})
	same(t, "Open", h[:1], 0, opened(h[:1], 0), answer{e: api.ErrFull})
	same(t, "Swap", h[:4], 255, swapped(h[:4], to[:255]), answer{e: api.ErrForm})
	wide := make(api.Hands, 20)
	if e := Check(wide[:16]); e != api.OK {
		t.Error(e)
	}
}

// With an error of Check all functions return it, whatever the rest is.
func TestErrorOfCheckFirstP3(t *testing.T) {
	high := slices.Repeat([]int{256}, 256)
	check := func(h api.Hands) {
		e := checkError(h)
		if e == api.OK {
			return
		}
		for _, to := range [][]int{nil, high, high[:9]} {
			for _, at := range []int{-1, 0, 256} {
				errors := callAll(t, h, at, 65536, to)
				if want := slices.Repeat([]api.Errno{e}, 6); !slices.Equal(errors, want) {
					t.Errorf("%v, %d: errors %v, not %d", h, at, errors, e)
				}
			}
		}
	}
	eachHands(check)
	check(row(17, open(1, 0)))
	check(row(17, open(0, 256)))
}
