package plan

import (
	"math"
	"slices"
	"testing"

	"cairnfield/api"
)

// A panic in one of these calls fails the test.
func TestNoPanicP1(t *testing.T) {
	arenas := [][]uint64{nil, {1}, {1, 1}, {1, 3, 1, 1}, make([]uint64, 256), make([]uint64, 257), make([]uint64, 100000)}
	for bit := range 64 {
		v := uint64(1) << bit
		arenas = append(arenas, []uint64{v}, []uint64{1, v}, []uint64{1, v - 1}, []uint64{0, 2, 1, v - 1})
	}
	numbers := []int{math.MinInt, -1 << 32, -1, 0, 1, 2, 255, 256, 257, 1 << 32, math.MaxInt}
	for _, a := range arenas {
		for _, v := range numbers {
			for _, w := range numbers {
				for _, l := range [][]int{nil, {v}, {w, v}} {
					checkError(t, a, []int{v, w}, l, errorOf(a, []int{v, w}, l))
					checkError(t, a, l, []int{v}, errorOf(a, l, []int{v}))
				}
			}
		}
	}
}

// A list may be longer than an arena.
func TestLongListsP1(t *testing.T) {
	long := make([]int, 100000)
	checkError(t, []uint64{0}, long, nil, api.ErrForm)
	checkError(t, []uint64{0}, nil, long, api.ErrForm)
	for i := range long {
		long[i] = i
	}
	checkError(t, []uint64{0}, long, nil, api.ErrNone)
	checkError(t, []uint64{0}, []int{0}, long, api.ErrNone)
	checkError(t, []uint64{0}, long, long, api.ErrNone)
}

// given are arguments, with more behind them.
type given struct {
	arena        []uint64
	keep, pinned []int
}

// sample has objects at words 1, 4 and 6, the last one of which is pinned.
func sample() given {
	return given{
		arena:  []uint64{free, 1 + body, 5, 9, 0, free, body, 8, 0, 0},
		keep:   []int{1, 4, 6, 8, 9},
		pinned: []int{6, 4, 9},
	}
}

func (g given) equals(h given) bool {
	return slices.Equal(g.arena, h.arena) && slices.Equal(g.keep, h.keep) && slices.Equal(g.pinned, h.pinned)
}

// results calls both functions without what is behind the arguments.
func (g given) results(t *testing.T) ([]int, []api.Run) {
	t.Helper()
	to, e := To(g.arena[:8], g.keep[:3], g.pinned[:1])
	gaps, f := Gaps(g.arena[:8], g.keep[:3], g.pinned[:1])
	if e != api.OK || f != api.OK {
		t.Fatalf("%v: errors %d, %d", g, e, f)
	}
	return to, gaps
}

func checkResults(t *testing.T, to []int, gaps []api.Run) {
	t.Helper()
	if !slices.Equal(to, []int{0, 3, 6}) || !slices.Equal(gaps, []api.Run{{At: 4, Long: 2}}) {
		t.Errorf("%v, %v", to, gaps)
	}
}

// scribble overwrites the memory of a list, its capacity too.
func scribble[T any](l []T, v T) {
	l = l[:cap(l)]
	for i := range l {
		l[i] = v
	}
}

func TestArgumentsUnchangedP2(t *testing.T) {
	g := sample()
	to, gaps := g.results(t)
	checkResults(t, to, gaps)
	if !g.equals(sample()) {
		t.Errorf("arguments %v", g)
	}
	scribble(to, 99)
	scribble(gaps, api.Run{At: 99})
	if !g.equals(sample()) {
		t.Errorf("a result shares memory with an argument: %v", g)
	}
}

func TestResultsAreNewP2(t *testing.T) {
	g := sample()
	to, gaps := g.results(t)
	scribble(g.arena, 99)
	scribble(g.keep, 99)
	scribble(g.pinned, 99)
	checkResults(t, to, gaps)
	again, others := sample().results(t)
	checkResults(t, again, others)
	scribble(again, 99)
	scribble(others, api.Run{At: 99})
	checkResults(t, to, gaps)
}

// One list may be both arguments, and nothing moves then.
func TestOneListP2(t *testing.T) {
	g := sample()
	l := g.keep[:3]
	check(t, g.arena[:8], l, l, []int{1, 4, 6}, []api.Run{{At: 0, Long: 1}, {At: 5, Long: 1}})
	if !g.equals(sample()) {
		t.Errorf("arguments %v", g)
	}
}

func TestNilIsEmptyP3(t *testing.T) {
	for _, a := range [][]uint64{nil, {}} {
		for _, keep := range [][]int{nil, {}} {
			for _, pinned := range [][]int{nil, {}} {
				check(t, a, keep, pinned, nil, nil)
				check(t, []uint64{0, 0}, keep, pinned, nil, []api.Run{{At: 0, Long: 2}})
				check(t, []uint64{0, 0}, []int{1}, pinned, []int{0}, []api.Run{{At: 1, Long: 1}})
				checkError(t, a, []int{0}, pinned, api.ErrNone)
				checkError(t, a, keep, []int{0}, api.ErrNone)
			}
		}
	}
}

// Words and numbers in the capacity of a list do not belong to it.
func TestCapacityDoesNotCountP3(t *testing.T) {
	wide := make([]uint64, 300)
	check(t, wide[:2], []int{1, 0}[:1], []int{1, 1}[:1], []int{1}, []api.Run{{At: 0, Long: 1}})
	checkError(t, wide[:2], []int{1, 2}, nil, api.ErrNone)
	checkError(t, wide[:2], []int{0, 1}[:1], []int{1}, api.ErrNone)
	checkError(t, wide[:256], []int{255}, nil, api.OK)
	checkError(t, wide[:257], []int{255}, nil, api.ErrLarge)
}
