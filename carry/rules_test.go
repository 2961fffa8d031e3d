package carry

import (
	"math"
	"slices"
	"testing"

	"cairnfield/api"
	"cairnfield/tint"
	"cairnfield/word"
)

// errorOf follows the list of errors of P141.
func errorOf(a []uint64, from []int, n int) api.Errno {
	words, e := tint.Words(a, from)
	if e != api.OK {
		return e
	}
	if _, e := word.New(n); e != api.OK {
		return e
	}
	if words > n {
		return api.ErrFull
	}
	return api.OK
}

// checkAny expects what the document says for any arguments.
func checkAny(t *testing.T, a []uint64, from []int, n int) {
	t.Helper()
	var l, to []int
	var b []uint64
	_, e := tint.Reach(a, from)
	if e == api.OK {
		l = inOrder(a, from)
	}
	checkOrder(t, a, from, l, e)
	if e = errorOf(a, from, n); e == api.OK {
		b, to = copied(a, l)
		checkCopy(t, a, from, n, withRest(b, n), l, to, e)
	} else {
		checkCopy(t, a, from, n, nil, nil, nil, e)
	}
}

// A panic in one of these calls fails the test.
func TestNoPanicP1(t *testing.T) {
	arenas := [][]uint64{nil, {1}, {1, 1}, {1, 3, 1, 1}, make([]uint64, 256), make([]uint64, 257), make([]uint64, 100000)}
	for bit := range 64 {
		v := uint64(1) << bit
		arenas = append(arenas, []uint64{v}, []uint64{1, v}, []uint64{1, v - 1}, []uint64{0, 2, 1, v - 1})
	}
	numbers := []int{math.MinInt, -1 << 32, -1, 0, 1, 2, 255, 256, 257, 1 << 32, math.MaxInt}
	for _, a := range arenas {
		for _, v := range numbers {
			for _, n := range numbers {
				checkAny(t, a, nil, n)
				checkAny(t, a, []int{v}, n)
				checkAny(t, a, []int{0, v}, n)
				checkAny(t, a, []int{v, 1}, n)
			}
		}
	}
}

// A list may be longer than an arena.
func TestLongListsP1(t *testing.T) {
	long := make([]int, 100000)
	checkOrder(t, []uint64{0}, long, []int{0}, api.OK)
	checkCopy(t, []uint64{0}, long, 1, []uint64{0}, []int{0}, []int{0}, api.OK)
	checkCopy(t, []uint64{0}, long, 0, nil, nil, nil, api.ErrFull)
	for i := range long {
		long[i] = i
	}
	checkOrder(t, []uint64{0}, long, nil, api.ErrNone)
	checkCopy(t, []uint64{0}, long, 1, nil, nil, nil, api.ErrNone)
}

// given are arguments, with more behind them.
type given struct {
	arena []uint64
	from  []int
}

// sample has objects at words 1, 4 and 6.
func sample() given {
	return given{
		arena: []uint64{free, 1 + body, 5, 9, 0, free, body, 8, 0, 0},
		from:  []int{6, 1, 8, 9},
	}
}

func (g given) equals(h given) bool {
	return slices.Equal(g.arena, h.arena) && slices.Equal(g.from, h.from)
}

// outcome is what both functions return.
type outcome struct {
	arena           []uint64
	order, same, to []int
}

// results calls both functions without what is behind the arguments.
func (g given) results(t *testing.T) outcome {
	t.Helper()
	var o outcome
	var e, f api.Errno
	o.arena, o.same, o.to, e = Copy(g.arena[:8], g.from[:2], 8)
	o.order, f = Order(g.arena[:8], g.from[:2])
	if e != api.OK || f != api.OK {
		t.Fatalf("%v: errors %d, %d", g, e, f)
	}
	return o
}

func (o outcome) check(t *testing.T) {
	t.Helper()
	b := []uint64{body, 8, 1 + body, 6, 9, 0, free + body, 0}
	l := []int{6, 1, 4}
	if !slices.Equal(o.arena, b) || !slices.Equal(o.order, l) || !slices.Equal(o.same, l) || !slices.Equal(o.to, []int{0, 2, 5}) {
		t.Errorf("%v", o)
	}
}

func (o outcome) scribble() {
	scribble(o.arena, 99)
	scribble(o.order, 99)
	scribble(o.same, 99)
	scribble(o.to, 99)
}

// scribble overwrites the memory of a list, its capacity too.
func scribble[T any](l []T, v T) {
	l = l[:cap(l)]
	for i := range l {
		l[i] = v
	}
}

func TestArgumentsUnchangedP2(t *testing.T) {
	g := sample()
	o := g.results(t)
	o.check(t)
	if !g.equals(sample()) {
		t.Errorf("arguments %v", g)
	}
	o.scribble()
	if !g.equals(sample()) {
		t.Errorf("a result shares memory with an argument: %v", g)
	}
}

func TestResultsAreNewP2(t *testing.T) {
	g := sample()
	o := g.results(t)
	scribble(g.arena, 99)
	scribble(g.from, 99)
	o.check(t)
	again := sample().results(t)
	again.check(t)
	again.scribble()
	o.check(t)
}

// What does not move is new memory, too, and so is each of two lists that are
// equal.
func TestNothingMovesP2(t *testing.T) {
	g := given{arena: []uint64{0, 0, 0}, from: []int{0, 1, 2}}
	b, l, to, _ := Copy(g.arena, g.from, 3)
	order, _ := Order(g.arena, g.from)
	scribble(b, 99)
	scribble(l, 99)
	if !slices.Equal(to, g.from) || !slices.Equal(order, g.from) {
		t.Errorf("results share memory: %v, %v", to, order)
	}
	scribble(to, 99)
	scribble(order, 99)
	if !g.equals(given{arena: []uint64{0, 0, 0}, from: []int{0, 1, 2}}) {
		t.Errorf("a result shares memory with an argument: %v", g)
	}
}

func TestNilIsEmptyP3(t *testing.T) {
	for _, a := range [][]uint64{nil, {}} {
		for _, from := range [][]int{nil, {}} {
			checkOrder(t, a, from, nil, api.OK)
			checkOrder(t, []uint64{0}, from, nil, api.OK)
			checkOrder(t, a, []int{0}, nil, api.ErrNone)
			checkCopy(t, a, from, 0, nil, nil, nil, api.OK)
			checkCopy(t, a, from, 2, []uint64{free + body, 0}, nil, nil, api.OK)
			checkCopy(t, []uint64{0}, from, 1, []uint64{free}, nil, nil, api.OK)
			checkCopy(t, a, []int{0}, 1, nil, nil, nil, api.ErrNone)
		}
	}
}

// Words and numbers in the capacity of a list do not belong to it.
func TestCapacityDoesNotCountP3(t *testing.T) {
	wide := make([]uint64, 300)
	checkOrder(t, wide[:2], []int{1, 0}[:1], []int{1}, api.OK)
	checkOrder(t, wide[:2], []int{1, 9}[:1], []int{1}, api.OK)
	checkOrder(t, wide[:2], []int{2}, nil, api.ErrNone)
	checkOrder(t, wide[:257], []int{1}, nil, api.ErrLarge)
	checkCopy(t, wide[:2], []int{1, 0}[:1], 1, []uint64{0}, []int{1}, []int{0}, api.OK)
	checkCopy(t, wide[:2], []int{1, 9}[:1], 1, []uint64{0}, []int{1}, []int{0}, api.OK)
	checkCopy(t, wide[:2], []int{2}, 1, nil, nil, nil, api.ErrNone)
	checkCopy(t, wide[:257], []int{1}, 1, nil, nil, nil, api.ErrLarge)
}
