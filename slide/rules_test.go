package slide

import (
	"math"
	"slices"
	"testing"

	"cairnfield/api"
)

// A panic in one of these calls fails the test.
func TestNoPanicP1(t *testing.T) {
	arenas := [][]uint64{nil, {1}, {1, 1}, {1, 3, 1, 1}, make([]uint64, 256), make([]uint64, 257), make([]uint64, 100000)}
	for bit := range 64 {
		v := uint64(1) << bit
		arenas = append(arenas, []uint64{v}, []uint64{1, v}, []uint64{1, v - 1}, []uint64{0, 2, 1, v - 1})
	}
	numbers := []int{math.MinInt, -1 << 32, -1, 0, 1, 2, 255, 256, 257, 1 << 32, math.MaxInt}
	for _, a := range arenas {
		for _, v := range numbers {
			for _, w := range numbers {
				for _, l := range [][]int{nil, {v}, {w, v}} {
					b, to, e := slid(t, a, []int{v, w}, l)
					checkSlide(t, a, []int{v, w}, l, b, to, e)
					b, to, e = slid(t, a, l, []int{v})
					checkSlide(t, a, l, []int{v}, b, to, e)
					checkError(t, a, []int{v, w}, l, errorOf(a, []int{v, w}, l))
					checkError(t, a, l, []int{v, w}, errorOf(a, l, []int{v, w}))
				}
			}
		}
	}
}

// A list may be longer than an arena.
func TestLongListsP1(t *testing.T) {
	long := make([]int, 100000)
	checkSlide(t, []uint64{0}, long, nil, nil, nil, api.ErrForm)
	checkSlide(t, []uint64{0}, nil, long, nil, nil, api.ErrForm)
	checkClean(t, []uint64{0}, long, nil, []uint64{0}, long, api.OK)
	checkClean(t, []uint64{0}, long, []int{0}, []uint64{0}, long, api.OK)
	checkClean(t, []uint64{0}, nil, long, nil, nil, api.ErrForm)
	for i := range long {
		long[i] = i
	}
	checkSlide(t, []uint64{0}, long, nil, nil, nil, api.ErrNone)
	checkSlide(t, []uint64{0}, []int{0}, long, nil, nil, api.ErrNone)
	checkClean(t, []uint64{0}, long, nil, nil, nil, api.ErrNone)
	checkClean(t, []uint64{0}, nil, long, nil, nil, api.ErrNone)
}

// given are arguments, with more behind them.
type given struct {
	arena              []uint64
	from, keep, pinned []int
}

// sample has objects at words 1, 4 and 6, the last one of which is pinned.
func sample() given {
	return given{
		arena:  []uint64{free, 1 + body, 5, 9, 0, free, body, 8, 0, 0},
		from:   []int{4, 1, 8, 9},
		keep:   []int{1, 4, 6, 8, 9},
		pinned: []int{6, 4, 9},
	}
}

func (g given) equals(h given) bool {
	return slices.Equal(g.arena, h.arena) && slices.Equal(g.from, h.from) && slices.Equal(g.keep, h.keep) && slices.Equal(g.pinned, h.pinned)
}

// outcome is what both functions return.
type outcome struct {
	slid, cleaned []uint64
	to, now       []int
}

// results calls both functions without what is behind the arguments.
func (g given) results(t *testing.T) outcome {
	t.Helper()
	var o outcome
	var e, f api.Errno
	o.slid, o.to, e = Slide(g.arena[:8], g.keep[:3], g.pinned[:1])
	o.cleaned, o.now, f = Clean(g.arena[:8], g.from[:2], g.pinned[:1])
	if e != api.OK || f != api.OK {
		t.Fatalf("%v: errors %d, %d", g, e, f)
	}
	return o
}

func (o outcome) check(t *testing.T) {
	t.Helper()
	b := []uint64{1 + body, 4, 9, 0, free + body, 0, body, 8}
	if !slices.Equal(o.slid, b) || !slices.Equal(o.cleaned, b) || !slices.Equal(o.to, []int{0, 3, 6}) || !slices.Equal(o.now, []int{3, 0}) {
		t.Errorf("%v", o)
	}
}

func (o outcome) scribble() {
	scribble(o.slid, 99)
	scribble(o.cleaned, 99)
	scribble(o.to, 99)
	scribble(o.now, 99)
}

// scribble overwrites the memory of a list, its capacity too.
func scribble[T any](l []T, v T) {
	l = l[:cap(l)]
	for i := range l {
		l[i] = v
	}
}

func TestArgumentsUnchangedP2(t *testing.T) {
	g := sample()
	o := g.results(t)
	o.check(t)
	if !g.equals(sample()) {
		t.Errorf("arguments %v", g)
	}
	o.scribble()
	if !g.equals(sample()) {
		t.Errorf("a result shares memory with an argument: %v", g)
	}
}

func TestResultsAreNewP2(t *testing.T) {
	g := sample()
	o := g.results(t)
	scribble(g.arena, 99)
	scribble(g.from, 99)
	scribble(g.keep, 99)
	scribble(g.pinned, 99)
	o.check(t)
	again := sample().results(t)
	again.check(t)
	again.scribble()
	o.check(t)
}

// What does not move is new memory, too.
func TestNothingMovesP2(t *testing.T) {
	g := given{arena: []uint64{0, 0, 0}, from: []int{0, 1, 2}}
	b, to, _ := Slide(g.arena, g.from, g.from)
	c, now, _ := Clean(g.arena, g.from, g.from)
	scribble(b, 99)
	scribble(c, 99)
	scribble(to, 99)
	scribble(now, 99)
	if !g.equals(given{arena: []uint64{0, 0, 0}, from: []int{0, 1, 2}}) {
		t.Errorf("a result shares memory with an argument: %v", g)
	}
}

// One list may be both arguments, and nothing moves then.
func TestOneListP2(t *testing.T) {
	g := sample()
	l := g.keep[:3]
	b := []uint64{free, 1 + body, 5, 9, 0, free, body, 8}
	checkSlide(t, g.arena[:8], l, l, b, l, api.OK)
	checkClean(t, g.arena[:8], l, l, b, l, api.OK)
	if !g.equals(sample()) {
		t.Errorf("arguments %v", g)
	}
}

func TestNilIsEmptyP3(t *testing.T) {
	for _, a := range [][]uint64{nil, {}} {
		for _, l := range [][]int{nil, {}} {
			for _, pinned := range [][]int{nil, {}} {
				checkSlide(t, a, l, pinned, nil, nil, api.OK)
				checkClean(t, a, l, pinned, nil, nil, api.OK)
				checkSlide(t, []uint64{0, 0}, l, pinned, []uint64{free + body, 0}, nil, api.OK)
				checkClean(t, []uint64{0, 0}, l, pinned, []uint64{free + body, 0}, nil, api.OK)
				checkSlide(t, []uint64{0, 0}, []int{1}, pinned, []uint64{0, free}, []int{0}, api.OK)
				checkClean(t, []uint64{0, 0}, l, []int{1}, []uint64{free, 0}, nil, api.OK)
				checkSlide(t, a, []int{0}, pinned, nil, nil, api.ErrNone)
				checkClean(t, a, []int{0}, pinned, nil, nil, api.ErrNone)
			}
		}
	}
}

// Words and numbers in the capacity of a list do not belong to it.
func TestCapacityDoesNotCountP3(t *testing.T) {
	wide := make([]uint64, 300)
	checkSlide(t, wide[:2], []int{1, 0}[:1], []int{1, 1}[:1], []uint64{free, 0}, []int{1}, api.OK)
	checkClean(t, wide[:2], []int{1, 9}[:1], []int{1, 1}[:1], []uint64{free, 0}, []int{1}, api.OK)
	checkSlide(t, wide[:2], []int{1, 2}, nil, nil, nil, api.ErrNone)
	checkClean(t, wide[:2], []int{1, 2}, nil, nil, nil, api.ErrNone)
	checkSlide(t, []uint64{1, 3, 0}, []int{0, 2}[:1], nil, nil, nil, api.ErrHeld)
	checkSlide(t, wide[:257], []int{255}, nil, nil, nil, api.ErrLarge)
	checkClean(t, wide[:257], []int{255}, nil, nil, nil, api.ErrLarge)
}
