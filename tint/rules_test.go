package tint

import (
	"math"
	"slices"
	"testing"

	"cairnfield/api"
)

// callAll calls each function and returns the errors. With an error the other
// results must be zero values.
func callAll(t *testing.T, a []uint64, from []int, stack int) []api.Errno {
	t.Helper()
	reached, e1 := Reach(a, from)
	m, e2 := Mark(a, from, stack)
	n, e3 := Words(a, from)
	if e1 != api.OK && len(reached) != 0 || e2 != api.OK && !equal(m, api.Marked{}) || e3 != api.OK && n != 0 {
		t.Errorf("%v, %v, %d: %v, %v, %d, errors %d, %d, %d", a, from, stack, reached, m, n, e1, e2, e3)
	}
	return []api.Errno{e1, e2, e3}
}

// numbers are those around bounds, and those whose sums overflow.
func numbers() []int {
	return []int{math.MinInt, math.MinInt + 1, -1 << 32, -1, 0, 1, 2, 63, 64, 255, 256, 257, 1 << 32, math.MaxInt - 1, math.MaxInt}
}

// A panic in one of these calls fails the test.
func TestNoPanicP1(t *testing.T) {
	arenas := [][]uint64{nil, {1}, {0, 0}, make([]uint64, 256), make([]uint64, 257), make([]uint64, 100000)}
	for bit := range 64 {
		v := uint64(1) << bit
		arenas = append(arenas, []uint64{v}, []uint64{1, v}, []uint64{1, v - 1}, []uint64{v, v, v}, []uint64{0, 2, 1, v - 1})
	}
	for _, a := range arenas {
		for _, v := range numbers() {
			for _, at := range numbers() {
				callAll(t, a, []int{at}, v)
				callAll(t, a, []int{0, at, at}, v)
			}
			callAll(t, a, nil, v)
		}
	}
}

// Passes end, however the objects of a full arena refer to each other.
func TestEndsP1(t *testing.T) {
	for objects := 1; objects <= 64; objects++ {
		each := 256/objects - 1
		l := make([]api.Object, objects)
		for i := range l {
			for k := range each {
				l[i].Refs = append(l[i].Refs, (5*i+7*k+1)%objects)
			}
		}
		for _, stack := range []int{1, 2, objects} {
			checkMark(t, build(t, l, 0), []int{objects - 1, 0}, stack)
		}
	}
}

// sample has two objects and a free one, with more words behind them.
func sample() []uint64 {
	return []uint64{2 + body, 5, 5, 7, 1, 1, free + body, 3, 1, 8, 8}
}

// sampleFrom has two words, with more behind them.
func sampleFrom() []int {
	return []int{4, 0, 70, 71}
}

// result is what one of the functions returns.
type result struct {
	reached []int
	m       api.Marked
	n       int
	e       api.Errno
}

func (r result) equals(s result) bool {
	return slices.Equal(r.reached, s.reached) && equal(r.m, s.m) && r.n == s.n && r.e == s.e
}

// calls are the functions, with a stack that is valid.
func calls() []func(a []uint64, from []int) result {
	return []func(a []uint64, from []int) result{
		func(a []uint64, from []int) result {
			reached, e := Reach(a, from)
			return result{reached: reached, e: e}
		},
		func(a []uint64, from []int) result {
			m, e := Mark(a, from, 1)
			return result{m: m, e: e}
		},
		func(a []uint64, from []int) result {
			n, e := Words(a, from)
			return result{n: n, e: e}
		},
	}
}

// scribble overwrites the memory of a list, its capacity too.
func scribble[T any](l []T, v T) {
	l = l[:cap(l)]
	for i := range l {
		l[i] = v
	}
}

func spoil(r result) {
	scribble(r.reached, 99)
	scribble(r.m.Marks, 99)
}

func TestArgumentsUnchangedP2(t *testing.T) {
	for i, call := range calls() {
		a, from := sample(), sampleFrom()
		got := call(a[:8], from[:2])
		if got.e != api.OK || !slices.Equal(a, sample()) || !slices.Equal(from, sampleFrom()) {
			t.Errorf("%d: %v, arguments %v, %v", i, got, a, from)
		}
		spoil(got)
		if !slices.Equal(a, sample()) || !slices.Equal(from, sampleFrom()) {
			t.Errorf("%d: the result shares memory with an argument", i)
		}
	}
	a, from := sample(), sampleFrom()
	for n := range len(a) + 1 {
		for k := range len(from) + 1 {
			callAll(t, a[:n], from[:k], k)
		}
	}
	if !slices.Equal(a, sample()) || !slices.Equal(from, sampleFrom()) {
		t.Error(a, from)
	}
}

func TestResultsAreNewP2(t *testing.T) {
	for i, call := range calls() {
		a, from := sample(), sampleFrom()
		got := call(a[:8], from[:2])
		want := call(sample()[:8], sampleFrom()[:2])
		scribble(a, 99)
		scribble(from, 99)
		again := call(sample()[:8], sampleFrom()[:2])
		if !got.equals(want) || !again.equals(want) {
			t.Errorf("%d: %v, %v, not %v", i, got, again, want)
		}
		spoil(again)
		if !got.equals(want) {
			t.Errorf("%d: results of two calls share memory", i)
		}
	}
}

func TestNilIsEmptyP3(t *testing.T) {
	for _, stack := range []int{0, 1, 256, 257} {
		for _, from := range [][]int{nil, {0}} {
			with := callAll(t, nil, from, stack)
			if empty := callAll(t, []uint64{}, from, stack); !slices.Equal(with, empty) {
				t.Errorf("nil and empty arenas differ for %v, %d: %v, %v", from, stack, with, empty)
			}
		}
		for _, a := range [][]uint64{nil, {0}, {1, 1}, {1}} {
			with := callAll(t, a, nil, stack)
			if empty := callAll(t, a, []int{}, stack); !slices.Equal(with, empty) {
				t.Errorf("nil and empty lists differ for %v, %d: %v, %v", a, stack, with, empty)
			}
		}
	}
}

// Words and numbers in the capacity of a list do not belong to it.
func TestCapacityDoesNotCountP3(t *testing.T) {
	a := []uint64{0, 1, 4, 0}
	checkNone(t, a[:3], []int{0})
	if got, e := Reach(a[:1], []int{0}); !slices.Equal(got, []int{0}) || e != api.OK {
		t.Error(got, e)
	}
	checkNone(t, a[:1], []int{1})
	wide := make([]uint64, 300)
	if n, e := Words(wide[:256], []int{255, 300}[:1]); n != 1 || e != api.OK {
		t.Error(n, e)
	}
}

// The order of the words from which one begins changes neither what is
// reachable nor an error.
func TestOrderP4(t *testing.T) {
	a := sample()[:8]
	for _, from := range [][]int{{4, 0}, {0, 4}, {0}, {4, 4, 0}} {
		if got, e := Reach(a, from); !slices.Equal(got, []int{0, 4}) || e != api.OK {
			t.Errorf("%v: %v, error %d", from, got, e)
		}
	}
	for _, from := range [][]int{{6, 0}, {0, 6}, {1, 6}} {
		checkNone(t, a, from)
	}
}
