package gap

import (
	"math"
	"slices"
	"testing"

	"cairnfield/api"
)

// callAll calls each function and returns the errors. With an error the other
// results must be zero values.
func callAll(t *testing.T, a []uint64, l []api.Run, n int, h api.Head) []api.Errno {
	t.Helper()
	gaps, e1 := Gaps(a)
	join, e2 := Join(a)
	first, e3 := First(l, n)
	best, e4 := Best(l, n)
	take, e5 := Take(a, n, h)
	give, e6 := Give(a, n)
	arenas := e2 != api.OK && len(join) != 0 || e5 != api.OK && len(take) != 0 || e6 != api.OK && len(give) != 0
	if arenas || e1 != api.OK && len(gaps) != 0 || e3 != api.OK && first != 0 || e4 != api.OK && best != 0 {
		t.Errorf("%v, %v, %d, %+v: results with an error", a, l, n, h)
	}
	return []api.Errno{e1, e2, e3, e4, e5, e6}
}

// bits are words with a single bit, alone, in front of and behind others.
func bits() [][]uint64 {
	var all [][]uint64
	for bit := range 64 {
		v := uint64(1) << bit
		all = append(all, []uint64{v}, []uint64{1, v}, []uint64{free, v - 1}, []uint64{v, v, v}, []uint64{free + body, v, v})
	}
	return all
}

// A panic in one of these calls fails the test.
func TestNoPanicP1(t *testing.T) {
	numbers := []int{math.MinInt, -1 << 32, -1, 0, 1, 2, 255, 256, 257, 1 << 32, math.MaxInt}
	arenas := append(bits(), nil, freed(256), freed(257), make([]uint64, 256), make([]uint64, 100000))
	for _, n := range numbers {
		for _, x := range numbers {
			for _, a := range arenas {
				callAll(t, a, []api.Run{{At: n, Long: x}, {At: x, Long: n}}, n, api.Head{Refs: x, Body: n})
				callAll(t, a, nil, n, api.Head{Body: x, Free: true})
			}
			callAll(t, freed(256), nil, n, api.Head{Tag: x})
		}
		callAll(t, nil, make([]api.Run, 100000), n, api.Head{})
	}
}

// changers are the functions that return a changed arena, with arguments that
// are valid for the arena of sample.
func changers() []func([]uint64) ([]uint64, api.Errno) {
	return []func([]uint64) ([]uint64, api.Errno){
		Join,
		func(a []uint64) ([]uint64, api.Errno) { return Take(a, 6, api.Head{Body: 1}) },
		func(a []uint64) ([]uint64, api.Errno) { return Take(a, 6, api.Head{Body: 2}) },
		func(a []uint64) ([]uint64, api.Errno) { return Give(a, 0) },
	}
}

// sample is an arena of ten words, with four words behind it.
func sample() []uint64 {
	return []uint64{2 + body, 1, 5, 7, 1, 5, free + 2*body, 3, 4, free, 8, 8, 8, 8}
}

// scribble overwrites the memory of an arena, its capacity too.
func scribble(a []uint64) {
	a = a[:cap(a)]
	for i := range a {
		a[i] = 77
	}
}

func TestArenaUnchangedP2(t *testing.T) {
	for i, change := range changers() {
		whole := sample()
		b, e := change(whole[:10])
		if e != api.OK || len(b) != 10 || !slices.Equal(whole, sample()) {
			t.Errorf("%d: error %d, argument %v", i, e, whole)
		}
		scribble(b)
		if !slices.Equal(whole, sample()) {
			t.Errorf("%d: the result shares memory with the argument", i)
		}
		b, _ = change(whole[:10])
		want := slices.Clone(b)
		scribble(whole)
		if !slices.Equal(b, want) {
			t.Errorf("%d: the result changes with the argument", i)
		}
	}
	whole := sample()
	for at := range 11 {
		callAll(t, whole[:10], nil, at, api.Head{Refs: 1})
		if !slices.Equal(whole, sample()) {
			t.Fatal(at, whole)
		}
	}
}

// Join has nothing to do here, but its result is new all the same.
func TestJoinWithoutGapsIsNewP2(t *testing.T) {
	whole := []uint64{1, 1, 0, 8}
	b, e := Join(whole[:3])
	if !slices.Equal(b, whole[:3]) || e != api.OK {
		t.Fatal(b, e)
	}
	scribble(b)
	if !slices.Equal(whole, []uint64{1, 1, 0, 8}) {
		t.Error(whole)
	}
	empty, e := Join(whole[:0])
	scribble(empty)
	if e != api.OK || !slices.Equal(whole, []uint64{1, 1, 0, 8}) {
		t.Error(whole, e)
	}
}

func TestListsP2(t *testing.T) {
	l := []api.Run{{At: 9, Long: 2}, {At: 0, Long: 5}, {At: 3, Long: 3}, {At: 7, Long: 7}, {At: -1, Long: -1}}
	want := slices.Clone(l)
	for n := range 9 {
		callAll(t, nil, l[:3], n, api.Head{})
		if !slices.Equal(l, want) {
			t.Fatal(n, l)
		}
	}
	// The ranges behind the length of the list do not exist.
	if i, e := First(l[:3], 6); i != 0 || e != api.ErrFull {
		t.Error(i, e)
	}
	gaps, _ := Gaps(sample()[:10])
	clear(gaps[:cap(gaps)])
	if again, e := Gaps(sample()[:10]); !slices.Equal(again, []api.Run{{At: 6, Long: 4}}) || e != api.OK {
		t.Error("Gaps shares memory between calls", again, e)
	}
}

func TestNilIsEmptyP3(t *testing.T) {
	for _, n := range []int{-1, 0, 1, 256, 257} {
		with := callAll(t, nil, nil, n, api.Head{})
		if empty := callAll(t, []uint64{}, []api.Run{}, n, api.Head{}); !slices.Equal(with, empty) {
			t.Errorf("nil and empty differ for %d: %v, %v", n, with, empty)
		}
	}
}

// With an error, no other result says anything.
func TestErrorsGiveZeroP3(t *testing.T) {
	eachHeap(func(objects [][]uint64) {
		a := slices.Concat(objects...)
		callAll(t, a, nil, len(a)/2, api.Head{Refs: 1})
	})
	eachRuns(func(l []api.Run) { callAll(t, nil, l, len(l), api.Head{}) })
}
