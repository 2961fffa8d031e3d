package tally

import (
	"math"
	"slices"
	"testing"

	"cairnfield/api"
	"cairnfield/walk"
)

// errorOf follows the list of errors of P160.
func errorOf(a []uint64, from []int) api.Errno {
	if e := walk.Check(a); e != api.OK {
		return e
	}
	for _, at := range from {
		if !slices.Contains(starts(a), at) {
			return api.ErrNone
		}
	}
	return api.OK
}

// checkAny expects what the document says for any arguments.
func checkAny(t *testing.T, a []uint64, from []int, k int) {
	t.Helper()
	if e := errorOf(a, from); e != api.OK {
		checkErrors(t, a, from, e)
		checkDrop(t, a, from, k, nil, e)
		return
	}
	checkCounts(t, a, from, countsOf(a, from), api.OK)
	checkRings(t, a, from, ringsOf(a, from), api.OK)
	if k < 0 || k >= len(from) {
		checkDrop(t, a, from, k, nil, api.ErrRange)
	} else {
		checkDrop(t, a, from, k, freedBy(a, from, k), api.OK)
	}
}

// A panic in one of these calls fails the test.
func TestNoPanicP1(t *testing.T) {
	arenas := [][]uint64{nil, {1}, {1, 1}, {1, 3, 1, 1}, make([]uint64, 257), make([]uint64, 100000)}
	for bit := range 64 {
		v := uint64(1) << bit
		arenas = append(arenas, []uint64{v}, []uint64{1, v}, []uint64{1, v - 1}, []uint64{0, 2, 1, v - 1})
	}
	numbers := append(wide(), 0, 1)
	for _, a := range arenas {
		for _, v := range numbers {
			for _, k := range numbers {
				checkAny(t, a, nil, k)
				checkAny(t, a, []int{v}, k)
				checkAny(t, a, []int{0, v}, k)
				checkAny(t, a, []int{v, 1}, k)
			}
		}
	}
}

// A list may be longer than an arena.
func TestLongListsP1(t *testing.T) {
	long := make([]int, 100000)
	a := []uint64{0, 1, 1}
	checkCounts(t, a, long, []int{100001, 0}, api.OK)
	checkRings(t, a, long, nil, api.OK)
	checkDrop(t, a, long, 99999, []int{1}, api.OK)
	checkDrop(t, a, long, 100000, nil, api.ErrRange)
	for i := range long {
		long[i] = i
	}
	checkErrors(t, a, long, api.ErrNone)
}

// given are arguments, with more behind them.
type given struct {
	arena []uint64
	from  []int
}

// sample has objects at words 1, 4, 6 and 8.
func sample() given {
	return given{
		arena: []uint64{free, 1 + body, 5, 9, 0, free, 1, 7, 0, 0, 0},
		from:  []int{8, 1, 1, 4, 8},
	}
}

func (g given) equals(h given) bool {
	return slices.Equal(g.arena, h.arena) && slices.Equal(g.from, h.from)
}

// outcome is what the functions return.
type outcome struct {
	counts, freed, rings []int
}

// results calls the functions without what is behind the arguments.
func (g given) results(t *testing.T) outcome {
	t.Helper()
	var o outcome
	var e [3]api.Errno
	o.counts, e[0] = Counts(g.arena[:9], g.from[:2])
	o.freed, e[1] = Drop(g.arena[:9], g.from[:2], 1)
	o.rings, e[2] = Rings(g.arena[:9], g.from[:2])
	if e != [3]api.Errno{} {
		t.Fatalf("%v: errors %d", g, e)
	}
	return o
}

func (o outcome) check(t *testing.T) {
	t.Helper()
	if !slices.Equal(o.counts, []int{1, 1, 1, 1}) || !slices.Equal(o.freed, []int{1, 4}) || !slices.Equal(o.rings, []int{6}) {
		t.Errorf("%v", o)
	}
}

func (o outcome) scribble() {
	scribble(o.counts, 99)
	scribble(o.freed, 99)
	scribble(o.rings, 99)
}

// scribble overwrites the memory of a list, its capacity too.
func scribble[T any](l []T, v T) {
	l = l[:cap(l)]
	for i := range l {
		l[i] = v
	}
}

func TestArgumentsUnchangedP2(t *testing.T) {
	g := sample()
	o := g.results(t)
	o.check(t)
	if !g.equals(sample()) {
		t.Errorf("arguments %v", g)
	}
	o.scribble()
	if !g.equals(sample()) {
		t.Errorf("a result shares memory with an argument: %v", g)
	}
}

// The elements behind the one that is removed stay where they are.
func TestFromUnchangedP2(t *testing.T) {
	for k := range 4 {
		from := []int{1, 0, 2, 0}
		if _, e := Drop([]uint64{0, 0, 0}, from, k); e != api.OK || !slices.Equal(from, []int{1, 0, 2, 0}) {
			t.Errorf("index %d: %v, error %d", k, from, e)
		}
	}
}

func TestResultsAreNewP2(t *testing.T) {
	g := sample()
	o := g.results(t)
	scribble(g.arena, 99)
	scribble(g.from, 99)
	o.check(t)
	again := sample().results(t)
	again.check(t)
	again.scribble()
	o.check(t)
}

func TestNilIsEmptyP3(t *testing.T) {
	for _, a := range [][]uint64{nil, {}} {
		for _, from := range [][]int{nil, {}} {
			checkCounts(t, a, from, nil, api.OK)
			checkRings(t, a, from, nil, api.OK)
			checkDrop(t, a, from, 0, nil, api.ErrRange)
			checkCounts(t, []uint64{0}, from, []int{0}, api.OK)
			checkRings(t, []uint64{1, 1}, from, []int{0}, api.OK)
			checkDrop(t, []uint64{0}, from, 0, nil, api.ErrRange)
			checkErrors(t, a, []int{0}, api.ErrNone)
		}
	}
}

// Words and numbers in the capacity of a list do not belong to it.
func TestCapacityDoesNotCountP3(t *testing.T) {
	wide := make([]uint64, 300)
	for _, from := range [][]int{[]int{1, 0}[:1], []int{1, 1}[:1], []int{1, 9}[:1]} {
		checkCounts(t, wide[:2], from, []int{0, 1}, api.OK)
		checkRings(t, wide[:2], from, nil, api.OK)
		checkDrop(t, wide[:2], from, 0, []int{0, 1}, api.OK)
		checkDrop(t, wide[:2], from, 1, nil, api.ErrRange)
	}
	checkErrors(t, wide[:2], []int{2}, api.ErrNone)
	checkErrors(t, wide[:257], []int{math.MaxInt}, api.ErrLarge)
	checkCounts(t, wide[:256], nil, make([]int, 256), api.OK)
}
