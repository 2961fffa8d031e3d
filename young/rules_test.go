package young

import (
	"math"
	"slices"
	"testing"

	"cairnfield/api"
	"cairnfield/walk"
)

// isObject reports whether an object that is not free starts at word at.
func isObject(a []uint64, at int) bool {
	return slices.Contains(starts(a), at)
}

// writeError follows the list of errors of P151.
func writeError(g api.Ages, at, ref, to int) api.Errno {
	if e := errorOf(g); e != api.OK {
		return e
	}
	if !isObject(g.Arena, at) {
		return api.ErrNone
	}
	if ref < 0 || ref >= headOf(g.Arena, at).Refs || to != -1 && !isObject(g.Arena, to) {
		return api.ErrRange
	}
	return api.OK
}

// keepError follows the list of errors of P152.
func keepError(g api.Ages, from []int) api.Errno {
	if e := errorOf(g); e != api.OK {
		return e
	}
	for _, at := range from {
		if !isObject(g.Arena, at) {
			return api.ErrNone
		}
	}
	return api.OK
}

// checkAny expects what the document says for any arguments.
func checkAny(t *testing.T, g api.Ages, from []int, at, ref, to int) {
	t.Helper()
	checkCheck(t, g, errorOf(g))
	if e := writeError(g, at, ref, to); e != api.OK {
		checkWrite(t, g, at, ref, to, api.Ages{}, e)
	} else {
		checkWrite(t, g, at, ref, to, written(g, at, ref, to), api.OK)
	}
	if e := keepError(g, from); e != api.OK {
		checkKeep(t, g, from, nil, e)
		checkGrow(t, g, from, api.Ages{}, e)
	} else {
		checkBoth(t, g, from, surviving(g, from), grown(g, from))
	}
}

// A panic in one of these calls fails the test.
func TestNoPanicP1(t *testing.T) {
	arenas := [][]uint64{nil, {1}, {1, 1}, {1, 3, 1, 1}, make([]uint64, 257), make([]uint64, 100000)}
	for bit := range 64 {
		v := uint64(1) << bit
		arenas = append(arenas, []uint64{v}, []uint64{1, v}, []uint64{1, v - 1}, []uint64{0, 2, 1, v - 1})
	}
	numbers := []int{math.MinInt, -1 << 32, -1, 0, 1, 2, 255, 256, 257, 1 << 32, math.MaxInt}
	for _, a := range arenas {
		for i, v := range numbers {
			for _, w := range numbers {
				u := numbers[(i+5)%len(numbers)]
				checkAny(t, api.Ages{Arena: a}, []int{v, w}, v, w, u)
				checkAny(t, api.Ages{Arena: a, Old: []int{v}}, []int{w}, w, u, v)
				checkAny(t, api.Ages{Arena: a, Old: []int{v, w}, Noted: []int{u}}, nil, u, v, w)
				checkAny(t, api.Ages{Arena: a, Old: []int{v}, Noted: []int{v}}, nil, v, u, w)
			}
		}
	}
}

// A list may be longer than an arena.
func TestLongListsP1(t *testing.T) {
	long := make([]int, 100000)
	g := api.Ages{Arena: []uint64{0}}
	checkBoth(t, g, long, []int{0}, api.Ages{Arena: []uint64{0}, Old: []int{0}})
	checkErrors(t, api.Ages{Arena: []uint64{0}, Old: long}, api.ErrForm)
	checkErrors(t, api.Ages{Arena: []uint64{0}, Noted: long}, api.ErrForm)
	for i := range long {
		long[i] = i
	}
	checkKeep(t, g, long, nil, api.ErrNone)
	checkGrow(t, g, long, api.Ages{}, api.ErrNone)
	checkErrors(t, api.Ages{Arena: []uint64{0}, Old: long}, api.ErrNone)
	checkErrors(t, api.Ages{Arena: []uint64{0}, Old: []int{0}, Noted: long}, api.ErrNone)
	checkErrors(t, api.Ages{Arena: []uint64{0}, Old: long, Noted: long}, api.ErrNone)
}

// given are arguments, with more behind them.
type given struct {
	arena            []uint64
	old, noted, from []int
}

// sample has objects at words 0, 3, 5, 7 and 8, and a free one behind them.
func sample() given {
	return given{
		arena: []uint64{1 + body, 4, 8, 1, 0, body, 7, 0, 0, free, 0, 0},
		old:   []int{0, 3, 8, 0, 0},
		noted: []int{0, 8, 8, 0},
		from:  []int{8, 7, 8, 0},
	}
}

func (g given) equals(h given) bool {
	return slices.Equal(g.arena, h.arena) && slices.Equal(g.old, h.old) && slices.Equal(g.noted, h.noted) && slices.Equal(g.from, h.from)
}

func (g given) scribble() {
	scribble(g.arena, 99)
	scribble(g.old, 99)
	scribble(g.noted, 99)
	scribble(g.from, 99)
}

// outcome is what the functions return: two writes, of which only the first
// one changes the list of noted objects, and a collection.
type outcome struct {
	noted, plain, grown api.Ages
	keep                []int
}

// results calls the functions without what is behind the arguments.
func (g given) results(t *testing.T) outcome {
	t.Helper()
	ages := api.Ages{Arena: g.arena[:10], Old: g.old[:3], Noted: g.noted[:2]}
	var o outcome
	var e [5]api.Errno
	e[0] = Check(ages)
	o.noted, e[1] = Write(ages, 3, 0, 5)
	o.plain, e[2] = Write(ages, 3, 0, 8)
	o.keep, e[3] = Keep(ages, g.from[:2])
	o.grown, e[4] = Grow(ages, g.from[:2])
	if e != [5]api.Errno{} {
		t.Fatalf("%v: errors %d", g, e)
	}
	return o
}

func (o outcome) check(t *testing.T) {
	t.Helper()
	want := []api.Ages{
		{Arena: []uint64{1 + body, 4, 8, 1, 6, body, 7, 0, 0, free}, Old: []int{0, 3, 8}, Noted: []int{0, 3, 8}},
		{Arena: []uint64{1 + body, 4, 8, 1, 9, body, 7, 0, 0, free}, Old: []int{0, 3, 8}, Noted: []int{0, 8}},
		{Arena: []uint64{1 + body, 4, 8, 1, 0, free + body, 0, 0, 0, free}, Old: []int{0, 3, 7, 8}},
	}
	if !equal(o.noted, want[0]) || !equal(o.plain, want[1]) || !equal(o.grown, want[2]) || !slices.Equal(o.keep, []int{7}) {
		t.Errorf("%v", o)
	}
}

func (o outcome) scribble() {
	for _, g := range []api.Ages{o.noted, o.plain, o.grown} {
		scribble(g.Arena, 99)
		scribble(g.Old, 99)
		scribble(g.Noted, 99)
	}
	scribble(o.keep, 99)
}

// scribble overwrites the memory of a list, its capacity too.
func scribble[T any](l []T, v T) {
	l = l[:cap(l)]
	for i := range l {
		l[i] = v
	}
}

func TestArgumentsUnchangedP2(t *testing.T) {
	g := sample()
	o := g.results(t)
	o.check(t)
	if !g.equals(sample()) {
		t.Errorf("arguments %v", g)
	}
	o.scribble()
	if !g.equals(sample()) {
		t.Errorf("a result shares memory with an argument: %v", g)
	}
}

func TestResultsAreNewP2(t *testing.T) {
	g := sample()
	o := g.results(t)
	g.scribble()
	o.check(t)
	again := sample().results(t)
	again.check(t)
	again.scribble()
	o.check(t)
}

// Each list of a result is new memory, even if it is equal to an argument or to
// another list of the result.
func TestPartsAreNewP2(t *testing.T) {
	a, old, noted := []uint64{1, 0, 0}, []int{0}, []int{0}
	g := api.Ages{Arena: a, Old: old, Noted: noted}
	h, _ := Write(g, 0, 0, -1)
	scribble(h.Old, 98)
	if !slices.Equal(h.Noted, []int{0}) {
		t.Errorf("Old shares memory: %v", h)
	}
	scribble(h.Noted, 99)
	if !slices.Equal(h.Old, []int{98}) {
		t.Errorf("Noted shares memory: %v", h)
	}
	scribble(h.Arena, 99)
	grown, _ := Grow(api.Ages{Arena: a, Old: old}, nil)
	scribble(grown.Arena, 99)
	scribble(grown.Old, 99)
	from := []int{2, 0}
	keep, _ := Keep(api.Ages{Arena: a}, from)
	scribble(keep, 99)
	all, _ := Grow(api.Ages{Arena: a}, from)
	scribble(all.Old, 99)
	if !equal(g, api.Ages{Arena: []uint64{1, 0, 0}, Old: []int{0}, Noted: []int{0}}) || !slices.Equal(from, []int{2, 0}) {
		t.Errorf("a result shares memory with an argument: %v, %v", g, from)
	}
}

func TestNilIsEmptyP3(t *testing.T) {
	for _, none := range [][]int{nil, {}} {
		for _, a := range [][]uint64{nil, {}} {
			g := api.Ages{Arena: a, Old: none, Noted: none}
			checkCheck(t, g, api.OK)
			checkBoth(t, g, none, nil, api.Ages{})
			checkKeep(t, g, []int{0}, nil, api.ErrNone)
			checkWrite(t, g, 0, 0, 0, api.Ages{}, api.ErrNone)
		}
		g := api.Ages{Arena: []uint64{1, 0}, Old: none, Noted: none}
		checkCheck(t, g, api.OK)
		checkBoth(t, g, none, nil, api.Ages{Arena: []uint64{free + body, 0}})
		checkWrite(t, g, 0, 0, 0, api.Ages{Arena: []uint64{1, 1}}, api.OK)
	}
}

// Words and numbers in the capacity of a list do not belong to it.
func TestCapacityDoesNotCountP3(t *testing.T) {
	wide := make([]uint64, 300)
	g := api.Ages{Arena: wide[:2], Old: []int{1, 1}[:1], Noted: []int{1, 0}[:1]}
	checkCheck(t, g, api.OK)
	checkBoth(t, g, []int{1, 9}[:1], nil, api.Ages{Arena: []uint64{free, 0}, Old: []int{1}})
	checkBoth(t, g, []int{1, 0}[:1], nil, api.Ages{Arena: []uint64{free, 0}, Old: []int{1}})
	checkWrite(t, g, 2, 0, 0, api.Ages{}, api.ErrNone)
	checkErrors(t, api.Ages{Arena: wide[:2], Old: []int{2}}, api.ErrNone)
	checkErrors(t, api.Ages{Arena: wide[:257]}, api.ErrLarge)
	if e := walk.Check(wide[:256]); e != api.OK {
		t.Error(e)
	}
	checkCheck(t, api.Ages{Arena: wide[:256]}, api.OK)
}
