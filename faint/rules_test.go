package faint

import (
	"math"
	"slices"
	"testing"

	"cairnfield/api"
	"cairnfield/tint"
)

// errorOf follows the list of errors of P170 for words that n pairs or elements
// of queue contain.
func errorOf(a []uint64, from []int, n int, words []int) api.Errno {
	if _, e := tint.Reach(a, from); e != api.OK {
		return e
	}
	if n > 32 {
		return api.ErrLarge
	}
	for _, at := range words {
		if !slices.Contains(starts(a), at) {
			return api.ErrNone
		}
	}
	return api.OK
}

// checkAny expects what the document says for any arguments.
func checkAny(t *testing.T, a []uint64, from []int, pairs []api.Faint, queue []int) {
	t.Helper()
	var words []int
	for _, p := range pairs {
		words = append(words, p.Key, p.Value)
	}
	if e := errorOf(a, from, len(pairs), words); e != api.OK {
		checkPairs(t, a, from, pairs, e)
	} else {
		l := smallest(a, from, pairs)
		checkKeep(t, a, from, pairs, l, api.OK)
		checkClear(t, a, from, pairs, clearedTo(l, pairs), api.OK)
	}
	if e := errorOf(a, from, len(queue), queue); e != api.OK {
		checkLast(t, a, from, queue, nil, nil, e)
	} else {
		told, all := lastOf(a, from, queue)
		checkLast(t, a, from, queue, told, all, api.OK)
	}
}

// A panic in one of these calls fails the test.
func TestNoPanicP1(t *testing.T) {
	arenas := [][]uint64{nil, {1}, {1, 1}, {1, 3, 1, 1}, make([]uint64, 257), make([]uint64, 10000)}
	for bit := range 64 {
		v := uint64(1) << bit
		arenas = append(arenas, []uint64{v}, []uint64{1, v}, []uint64{0, 2, 1, v - 1})
	}
	numbers := append(wide(), 0, 1)
	for _, a := range arenas {
		for _, v := range numbers {
			for _, w := range numbers {
				checkAny(t, a, nil, []api.Faint{pair(v, w)}, []int{v, w})
				checkAny(t, a, []int{v}, []api.Faint{pair(0, w), pair(w, 1)}, []int{w})
				checkAny(t, a, []int{0}, slices.Repeat([]api.Faint{pair(v, w)}, 33), slices.Repeat([]int{w}, 33))
			}
		}
	}
}

// A list may be longer than an arena.
func TestLongListsP1(t *testing.T) {
	long := make([]int, 100000)
	many := make([]api.Faint, 100000)
	a := []uint64{0, 1, 1}
	checkKeep(t, a, long, []api.Faint{pair(0, 1)}, []int{0, 1}, api.OK)
	checkClear(t, a, long, []api.Faint{pair(1, 0)}, nil, api.OK)
	checkLast(t, a, long, []int{0, 1}, []int{1}, []int{0, 1}, api.OK)
	checkPairs(t, a, long, many, api.ErrLarge)
	checkLast(t, a, nil, long, nil, nil, api.ErrLarge)
	for i := range long {
		long[i], many[i] = i, pair(i, -i)
	}
	checkPairs(t, a, nil, many, api.ErrLarge)
	checkLast(t, a, nil, long, nil, nil, api.ErrLarge)
	checkErrors(t, a, long, api.ErrNone)
}

// given are arguments, with more behind them.
type given struct {
	arena       []uint64
	from, queue []int
	pairs       []api.Faint
}

// sample has objects at words 1, 4, 6 and 8.
func sample() given {
	return given{
		arena: []uint64{free, 1 + body, 5, 9, 0, free, 1, 7, 0, 0, 0},
		from:  []int{8, 8, 4, 4, 4, 4},
		queue: []int{6, 8, 1, 6, 4},
		pairs: []api.Faint{pair(4, 6), pair(6, 4), pair(8, 1), pair(6, 6), pair(8, 6)},
	}
}

func (g given) equals(h given) bool {
	return slices.Equal(g.arena, h.arena) && slices.Equal(g.from, h.from) &&
		slices.Equal(g.queue, h.queue) && slices.Equal(g.pairs, h.pairs)
}

// outcome is what the functions return.
type outcome struct {
	kept, told, all []int
	left            []api.Faint
}

// results calls the functions without what is behind the arguments.
func (g given) results(t *testing.T, pairs int) outcome {
	t.Helper()
	var o outcome
	var e [3]api.Errno
	o.kept, e[0] = Keep(g.arena[:9], g.from[:2], g.pairs[:pairs])
	o.left, e[1] = Clear(g.arena[:9], g.from[:2], g.pairs[:pairs])
	o.told, o.all, e[2] = Last(g.arena[:9], g.from[:2], g.queue[:4])
	if e != [3]api.Errno{} {
		t.Fatalf("%v: errors %d", g, e)
	}
	return o
}

func (o outcome) equals(p outcome) bool {
	return slices.Equal(o.kept, p.kept) && slices.Equal(o.told, p.told) &&
		slices.Equal(o.all, p.all) && slices.Equal(o.left, p.left)
}

// expected has what the sample gives, with its first two pairs, which are
// cleared, with the third one, and with those that are behind it.
func expected(pairs int) outcome {
	o := outcome{kept: []int{8}, told: []int{6, 1, 6}, all: []int{1, 4, 6, 8}}
	if pairs > 2 {
		o.kept, o.left = []int{1, 4, 6, 8}, sample().pairs[:pairs]
	}
	return o
}

func (o outcome) scribble() {
	scribble(o.kept, 99)
	scribble(o.told, 99)
	scribble(o.all, 99)
	scribble(o.left, pair(99, 99))
}

// scribble overwrites the memory of a list, its capacity too.
func scribble[T any](l []T, v T) {
	l = l[:cap(l)]
	for i := range l {
		l[i] = v
	}
}

func TestArgumentsUnchangedP2(t *testing.T) {
	for _, n := range []int{2, 3, 4} {
		g := sample()
		o := g.results(t, n)
		if !o.equals(expected(n)) {
			t.Errorf("%d pairs: %v", n, o)
		}
		if !g.equals(sample()) {
			t.Errorf("arguments %v", g)
		}
		o.scribble()
		if !g.equals(sample()) {
			t.Errorf("a result shares memory with an argument: %v", g)
		}
	}
}

func TestResultsAreNewP2(t *testing.T) {
	for _, n := range []int{2, 3, 4} {
		g := sample()
		o := g.results(t, n)
		scribble(g.arena, 99)
		scribble(g.from, 99)
		scribble(g.queue, 99)
		scribble(g.pairs, pair(99, 99))
		if !o.equals(expected(n)) {
			t.Errorf("%d pairs: a result changes with its arguments: %v", n, o)
		}
		again := sample().results(t, n)
		again.scribble()
		if !o.equals(expected(n)) {
			t.Errorf("%d pairs: a result changes with another one: %v", n, o)
		}
	}
}

// The two lists of Last are the same list if from is empty, but not the same
// memory.
func TestPartsAreNewP2(t *testing.T) {
	told, all, e := Last([]uint64{0, 0, 0}, nil, []int{0, 1, 2})
	if e != api.OK {
		t.Fatalf("error %d", e)
	}
	scribble(told, 99)
	if !slices.Equal(all, []int{0, 1, 2}) {
		t.Errorf("the lists share memory: %v", all)
	}
	told, all, _ = Last([]uint64{0, 0, 0}, nil, []int{0, 1, 2})
	scribble(all, 99)
	if !slices.Equal(told, []int{0, 1, 2}) {
		t.Errorf("the lists share memory: %v", told)
	}
}

func TestNilIsEmptyP3(t *testing.T) {
	for _, a := range [][]uint64{nil, {}} {
		for _, from := range [][]int{nil, {}} {
			for _, pairs := range [][]api.Faint{nil, {}} {
				checkKeep(t, a, from, pairs, nil, api.OK)
				checkClear(t, a, from, pairs, nil, api.OK)
				checkKeep(t, []uint64{1, 1}, from, pairs, nil, api.OK)
				checkKeep(t, []uint64{1, 1}, []int{0}, pairs, []int{0}, api.OK)
				checkPairs(t, a, []int{0}, pairs, api.ErrNone)
			}
			for _, queue := range [][]int{nil, {}} {
				checkLast(t, a, from, queue, nil, nil, api.OK)
				checkLast(t, []uint64{0}, []int{0}, queue, nil, []int{0}, api.OK)
			}
			checkLast(t, []uint64{0}, from, []int{0}, []int{0}, []int{0}, api.OK)
			checkErrors(t, a, []int{0}, api.ErrNone)
		}
	}
}

// Words and numbers in the capacity of a list do not belong to it.
func TestCapacityDoesNotCountP3(t *testing.T) {
	wide := make([]uint64, 300)
	for _, behind := range []int{0, 1, 9} {
		from := []int{1, behind}[:1]
		pairs := append(slices.Repeat([]api.Faint{pair(0, 1)}, 32), pair(1, behind))
		queue := append(make([]int, 32), behind)
		checkKeep(t, wide[:2], from, pairs[:1], []int{1}, api.OK)
		checkClear(t, wide[:2], from, pairs[:32], nil, api.OK)
		checkPairs(t, wide[:2], from, pairs, api.ErrLarge)
		checkLast(t, wide[:2], from, queue[:32], queue[:32], []int{0, 1}, api.OK)
		checkLast(t, wide[:2], from, queue[:0], nil, []int{1}, api.OK)
		checkLast(t, wide[:2], from, queue, nil, nil, api.ErrLarge)
	}
	checkErrors(t, wide[:2], []int{2}, api.ErrNone)
	checkErrors(t, wide[:257], []int{math.MaxInt}, api.ErrLarge)
	checkKeep(t, wide[:256], []int{3}, []api.Faint{pair(3, 255)}, []int{3, 255}, api.OK)
}
