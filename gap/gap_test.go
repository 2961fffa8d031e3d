package gap

import (
	"math"
	"slices"
	"testing"

	"cairnfield/api"
	"cairnfield/walk"
)

const (
	free   = 1 << 48
	tagged = 5 << 32
	body   = 1 << 16
)

// pieces are the words of single objects. Some of their references are valid
// only behind or before certain others.
func pieces() [][]uint64 {
	return [][]uint64{
		{0}, {tagged + body, 7}, {1, 0}, {1, 1}, {1, 3}, {2 + body, 3, 5, 9},
		{free}, {free + body, 8}, {free + 2*body, 0, 3},
	}
}

// eachHeap calls check with all arenas of up to four of the pieces.
func eachHeap(check func(objects [][]uint64)) {
	level := [][][]uint64{nil}
	for range 5 {
		var next [][][]uint64
		for _, objects := range level {
			check(objects)
			for _, p := range pieces() {
				next = append(next, append(slices.Clone(objects), p))
			}
		}
		level = next
	}
}

// eachValidHeap leaves out those with references to where no object starts.
func eachValidHeap(check func(objects [][]uint64)) {
	eachHeap(func(objects [][]uint64) {
		if walk.Check(slices.Concat(objects...)) == api.OK {
			check(objects)
		}
	})
}

func isFree(object []uint64) bool {
	return object[0] >= free
}

// freed are the words of a free object of n words, or of none.
func freed(n int) []uint64 {
	object := make([]uint64, n)
	if n > 0 {
		object[0] = free + body*uint64(n-1)
	}
	return object
}

// startsAt returns the index of the object that starts at word at, or -1.
func startsAt(objects [][]uint64, at int) int {
	start := 0
	for i, o := range objects {
		if start == at {
			return i
		}
		start += len(o)
	}
	return -1
}

// gapsOf looks at each word and at the one before it.
func gapsOf(objects [][]uint64) []api.Run {
	var is []bool
	for _, o := range objects {
		for range o {
			is = append(is, isFree(o))
		}
	}
	var gaps []api.Run
	for at := range is {
		if is[at] && (at == 0 || !is[at-1]) {
			gaps = append(gaps, api.Run{At: at})
		}
		if is[at] {
			gaps[len(gaps)-1].Long++
		}
	}
	return gaps
}

// joined writes each gap as one free object.
func joined(objects [][]uint64) []uint64 {
	a := slices.Concat(objects...)
	for _, r := range gapsOf(objects) {
		copy(a[r.At:], freed(r.Long))
	}
	return a
}

// holds reports whether an object other than number i refers to word at.
func holds(objects [][]uint64, i, at int) bool {
	for k, o := range objects {
		refs := int(o[0] % body)
		if k != i && slices.Contains(o[1:1+refs], uint64(at+1)) {
			return true
		}
	}
	return false
}

// given replaces the object at word at.
func given(objects [][]uint64, at int) ([]uint64, api.Errno) {
	i := startsAt(objects, at)
	if i < 0 || isFree(objects[i]) {
		return nil, api.ErrNone
	}
	if holds(objects, i, at) {
		return nil, api.ErrHeld
	}
	after := slices.Clone(objects)
	after[i] = freed(len(objects[i]))
	return slices.Concat(after...), api.OK
}

// taken replaces the free object at word at by two. The header is valid.
func taken(objects [][]uint64, at int, h api.Head) ([]uint64, api.Errno) {
	i := startsAt(objects, at)
	if i < 0 || !isFree(objects[i]) {
		return nil, api.ErrNone
	}
	object := make([]uint64, 1+h.Refs+h.Body)
	if len(object) > len(objects[i]) {
		return nil, api.ErrFull
	}
	object[0] = uint64(h.Refs) + body*uint64(h.Body) + 1<<32*uint64(h.Tag)
	after := slices.Clone(objects)
	after[i] = slices.Concat(object, freed(len(objects[i])-len(object)))
	return slices.Concat(after...), api.OK
}

// positions are all words of an arena of n words, and some outside of it.
func positions(n int) []int {
	l := []int{math.MinInt, -1 << 32, -1, n, n + 1, 255, 256, 1 << 32, math.MaxInt}
	for at := range n {
		l = append(l, at)
	}
	return l
}

// invalidArena is an arena with the error that walk.Check has for it.
type invalidArena struct {
	a []uint64
	e api.Errno
}

func invalidArenas() []invalidArena {
	large := make([]uint64, 257)
	large[0] = free
	return []invalidArena{
		{large, api.ErrLarge},
		{[]uint64{free, 1 << 49}, api.ErrForm},
		{[]uint64{free + 1, 0}, api.ErrForm},
		{[]uint64{free + body}, api.ErrForm},
		{[]uint64{free, 1}, api.ErrForm},
		{[]uint64{free, 1, 9}, api.ErrNone}, // behind the end
		{[]uint64{free, 1, 1}, api.ErrNone}, // to a free object
		{[]uint64{free, 1, 3}, api.ErrNone}, // to a reference word
	}
}

func TestGapsP50(t *testing.T) {
	eachValidHeap(func(objects [][]uint64) {
		a := slices.Concat(objects...)
		if got, e := Gaps(a); !slices.Equal(got, gapsOf(objects)) || e != api.OK {
			t.Errorf("Gaps(%v): %v, error %d", a, got, e)
		}
	})
}

func TestJoinP50(t *testing.T) {
	eachValidHeap(func(objects [][]uint64) {
		a := slices.Concat(objects...)
		if got, e := Join(a); !slices.Equal(got, joined(objects)) || e != api.OK {
			t.Errorf("Join(%v): %v, error %d", a, got, e)
		}
	})
}

func TestExamplesP50(t *testing.T) {
	for _, c := range []struct {
		a, join []uint64
		gaps    []api.Run
	}{
		{nil, nil, nil},
		{[]uint64{0}, []uint64{0}, nil},
		{[]uint64{free}, []uint64{free}, []api.Run{{At: 0, Long: 1}}},
		{[]uint64{free, free}, []uint64{free + body, 0}, []api.Run{{At: 0, Long: 2}}},
		{[]uint64{free + body, 9}, []uint64{free + body, 0}, []api.Run{{At: 0, Long: 2}}},
		{[]uint64{free, 0, free}, []uint64{free, 0, free}, []api.Run{{At: 0, Long: 1}, {At: 2, Long: 1}}},
		// A data word that looks like the header of a free object is none.
		{[]uint64{body, free, free}, []uint64{body, free, free}, []api.Run{{At: 2, Long: 1}}},
	} {
		if gaps, e := Gaps(c.a); !slices.Equal(gaps, c.gaps) || e != api.OK {
			t.Errorf("Gaps(%v): %v, error %d", c.a, gaps, e)
		}
		if join, e := Join(c.a); !slices.Equal(join, c.join) || e != api.OK {
			t.Errorf("Join(%v): %v, error %d", c.a, join, e)
		}
	}
}

// Free objects of each length up to the whole arena, one or many in a gap.
func TestWholeArenaP50(t *testing.T) {
	for n := 1; n <= api.MaxWords; n++ {
		small := make([]uint64, n)
		for i := range small {
			small[i] = free
		}
		for _, a := range [][]uint64{small, freed(n)} {
			if gaps, e := Gaps(a); !slices.Equal(gaps, []api.Run{{At: 0, Long: n}}) || e != api.OK {
				t.Errorf("Gaps of %d words: %v, error %d", n, gaps, e)
			}
			if join, e := Join(a); !slices.Equal(join, freed(n)) || e != api.OK {
				t.Errorf("Join of %d words: %v, error %d", n, join, e)
			}
		}
	}
}

// Every second object of a full arena is free: no two of them form a gap.
func TestManyGapsP50(t *testing.T) {
	a := make([]uint64, api.MaxWords)
	var want []api.Run
	for at := 1; at < len(a); at += 2 {
		a[at] = free
		want = append(want, api.Run{At: at, Long: 1})
	}
	if gaps, e := Gaps(a); !slices.Equal(gaps, want) || e != api.OK {
		t.Error(gaps, e)
	}
	if join, e := Join(a); !slices.Equal(join, a) || e != api.OK {
		t.Error(join, e)
	}
}

func TestErrorsP50(t *testing.T) {
	for i, c := range invalidArenas() {
		if gaps, e := Gaps(c.a); len(gaps) != 0 || e != c.e {
			t.Errorf("%d: Gaps: %v, error %d", i, gaps, e)
		}
		if join, e := Join(c.a); len(join) != 0 || e != c.e {
			t.Errorf("%d: Join: %v, error %d", i, join, e)
		}
	}
	eachHeap(func(objects [][]uint64) {
		a := slices.Concat(objects...)
		_, e := Gaps(a)
		_, f := Join(a)
		if want := walk.Check(a); e != want || f != want {
			t.Errorf("%v: errors %d, %d, not %d", a, e, f, want)
		}
	})
}

// eachRuns calls check with all short lists of some ranges. They need not be
// in order, nor in an arena, but the last three are not valid.
func eachRuns(check func(l []api.Run)) {
	some := []api.Run{
		{At: 0, Long: 1}, {At: 5, Long: 2}, {At: 5, Long: 3}, {At: 1, Long: 256},
		{At: math.MaxInt, Long: math.MaxInt}, {At: -1, Long: 3}, {At: 3, Long: 0}, {At: 3, Long: -2},
	}
	level := [][]api.Run{nil}
	for range 5 {
		var next [][]api.Run
		for _, l := range level {
			check(l)
			for _, r := range some {
				next = append(next, append(slices.Clone(l), r))
			}
		}
		level = next
	}
}

// wide are the indices of the ranges with at least n words, with the error
// that P51 lists.
func wide(l []api.Run, n int) ([]int, api.Errno) {
	if n < 1 {
		return nil, api.ErrArg
	}
	var fit []int
	for i, r := range l {
		if r.At < 0 || r.Long < 1 {
			return nil, api.ErrRange
		}
		if r.Long >= n {
			fit = append(fit, i)
		}
	}
	if len(fit) == 0 {
		return nil, api.ErrFull
	}
	return fit, api.OK
}

func TestFirstAndBestP51(t *testing.T) {
	eachRuns(func(l []api.Run) {
		for _, n := range []int{math.MinInt, -1, 0, 1, 2, 3, 4, 256, 257, math.MaxInt} {
			fit, want := wide(l, n)
			first, best := 0, 0
			if want == api.OK {
				slices.Sort(fit)
				first = fit[0]
				slices.SortStableFunc(fit, func(i, k int) int {
					if l[i].Long < l[k].Long {
						return -1
					}
					return min(l[i].Long-l[k].Long, 1)
				})
				best = fit[0]
			}
			if i, e := First(l, n); i != first || e != want {
				t.Errorf("First(%v, %d): %d, error %d", l, n, i, e)
			}
			if i, e := Best(l, n); i != best || e != want {
				t.Errorf("Best(%v, %d): %d, error %d", l, n, i, e)
			}
		}
	})
}

func TestFirstAndBestExamplesP51(t *testing.T) {
	l := []api.Run{{At: 0, Long: 1}, {At: 10, Long: 9}, {At: 30, Long: 4}, {At: 40, Long: 4}, {At: 50, Long: 5}}
	bad := []api.Run{{At: 0, Long: 9}, {At: 20, Long: 0}}
	for _, c := range []struct {
		l           []api.Run
		n           int
		first, best int
		want        api.Errno
	}{
		{l, 1, 0, 0, api.OK},
		{l, 2, 1, 2, api.OK},
		{l, 4, 1, 2, api.OK},
		{l, 5, 1, 4, api.OK},
		{l, 6, 1, 1, api.OK},
		{l, 9, 1, 1, api.OK},
		{l, 10, 0, 0, api.ErrFull},
		{nil, 1, 0, 0, api.ErrFull},
		{l, 0, 0, 0, api.ErrArg},
		{bad, 0, 0, 0, api.ErrArg},
		{bad, 1, 0, 0, api.ErrRange}, // although the range before it fits
		{bad, 99, 0, 0, api.ErrRange},
	} {
		if i, e := First(c.l, c.n); i != c.first || e != c.want {
			t.Errorf("First(%v, %d): %d, error %d", c.l, c.n, i, e)
		}
		if i, e := Best(c.l, c.n); i != c.best || e != c.want {
			t.Errorf("Best(%v, %d): %d, error %d", c.l, c.n, i, e)
		}
	}
}

func TestTakeP52(t *testing.T) {
	heads := []api.Head{
		{}, {Tag: 65535}, {Refs: 1}, {Body: 1}, {Refs: 1, Body: 1, Tag: 3}, {Refs: 2}, {Body: 2},
		{Refs: 2, Body: 1}, {Body: 255}, {Refs: 255},
	}
	eachValidHeap(func(objects [][]uint64) {
		a := slices.Concat(objects...)
		for _, at := range positions(len(a)) {
			for _, h := range heads {
				want, wantError := taken(objects, at, h)
				if got, e := Take(a, at, h); !slices.Equal(got, want) || e != wantError {
					t.Fatalf("Take(%v, %d, %+v): %v, error %d, not %v, %d", a, at, h, got, e, want, wantError)
				}
			}
		}
	})
}

func TestTakeExamplesP52(t *testing.T) {
	for _, c := range []struct {
		a    []uint64
		at   int
		h    api.Head
		want []uint64
	}{
		{[]uint64{free + 4*body, 1, 2, 3, 4}, 0, api.Head{Refs: 1}, []uint64{1, 0, free + 2*body, 0, 0}},
		{[]uint64{free + 4*body, 1, 2, 3, 4}, 0, api.Head{Refs: 1, Body: 3, Tag: 5}, []uint64{tagged + 1 + 3*body, 0, 0, 0, 0}},
		{[]uint64{free + 4*body, 1, 2, 3, 4}, 0, api.Head{Body: 3}, []uint64{3 * body, 0, 0, 0, free}},
		{[]uint64{0, free}, 1, api.Head{}, []uint64{0, 0}},
		// The free object behind it is neither used nor joined.
		{[]uint64{free + body, 9, free + body, 8}, 0, api.Head{}, []uint64{0, free, free + body, 8}},
		{[]uint64{free + body, 9, free + body, 8}, 2, api.Head{}, []uint64{free + body, 9, 0, free}},
	} {
		if got, e := Take(c.a, c.at, c.h); !slices.Equal(got, c.want) || e != api.OK {
			t.Errorf("Take(%v, %d, %+v): %v, error %d", c.a, c.at, c.h, got, e)
		}
	}
	if got, e := Take([]uint64{free, free}, 0, api.Head{Refs: 1}); len(got) != 0 || e != api.ErrFull {
		t.Error("two adjacent free objects are not one", got, e)
	}
}

// An object of each length from a free object of each length.
func TestTakeLengthsP52(t *testing.T) {
	for room := 1; room <= api.MaxWords; room++ {
		for need := 1; need <= api.MaxWords; need++ {
			h := api.Head{Refs: (need - 1) / 2, Body: need / 2}
			want, wantError := taken([][]uint64{freed(room)}, 0, h)
			if got, e := Take(freed(room), 0, h); !slices.Equal(got, want) || e != wantError {
				t.Fatalf("%d of %d words: %v, error %d", need, room, got, e)
			}
		}
	}
}

// Errors in the order of P52: each header is tried with arenas and words that
// have later errors, too.
func TestTakeErrorsP52(t *testing.T) {
	good := []uint64{free, 0}
	for _, c := range []struct {
		h    api.Head
		want api.Errno
	}{
		{api.Head{Refs: -1}, api.ErrRange},
		{api.Head{Body: 257}, api.ErrRange},
		{api.Head{Tag: 65536}, api.ErrRange},
		{api.Head{Refs: -1, Free: true}, api.ErrRange},
		{api.Head{Refs: 1, Free: true}, api.ErrForm},
		{api.Head{Body: 256, Free: true}, api.ErrLarge},
		{api.Head{Refs: 128, Body: 128}, api.ErrLarge},
		{api.Head{Free: true}, api.ErrForm},
		{api.Head{Body: 255, Free: true}, api.ErrForm},
	} {
		for _, a := range append(invalidArenas(), invalidArena{good, api.OK}) {
			for _, at := range positions(2) {
				if b, e := Take(a.a, at, c.h); len(b) != 0 || e != c.want {
					t.Errorf("Take(%v, %d, %+v): %v, error %d", a.a, at, c.h, b, e)
				}
			}
		}
	}
	for _, h := range []api.Head{{}, {Refs: 1}, {Body: 255}} {
		for _, a := range invalidArenas() {
			for _, at := range positions(2) {
				if b, e := Take(a.a, at, h); len(b) != 0 || e != a.e {
					t.Errorf("Take(%v, %d, %+v): %v, error %d", a.a, at, h, b, e)
				}
			}
		}
	}
	for at, want := range []api.Errno{api.ErrFull, api.ErrNone, api.ErrNone} {
		if b, e := Take(good, at, api.Head{Refs: 1}); len(b) != 0 || e != want {
			t.Errorf("Take(%v, %d): %v, error %d", good, at, b, e)
		}
	}
}

func TestGiveP52(t *testing.T) {
	eachValidHeap(func(objects [][]uint64) {
		a := slices.Concat(objects...)
		for _, at := range positions(len(a)) {
			want, wantError := given(objects, at)
			if got, e := Give(a, at); !slices.Equal(got, want) || e != wantError {
				t.Fatalf("Give(%v, %d): %v, error %d, not %v, %d", a, at, got, e, want, wantError)
			}
		}
	})
}

func TestGiveExamplesP52(t *testing.T) {
	for _, c := range []struct {
		a    []uint64
		at   int
		want []uint64
		e    api.Errno
	}{
		{[]uint64{0}, 0, []uint64{free}, api.OK},
		{[]uint64{tagged + 1 + body, 0, 9}, 0, []uint64{free + 2*body, 0, 0}, api.OK},
		{[]uint64{1, 1}, 0, []uint64{free + body, 0}, api.OK},                        // refers to itself
		{[]uint64{1, 3, 0}, 0, []uint64{free + body, 0, 0}, api.OK},                  // refers to another one
		{[]uint64{1, 3, 0}, 2, nil, api.ErrHeld},                                     // from before it
		{[]uint64{0, 1, 1}, 0, nil, api.ErrHeld},                                     // from behind it
		{[]uint64{1, 1, 1, 1}, 0, nil, api.ErrHeld},                                  // from itself and another one
		{[]uint64{2, 0, 4, 0}, 3, nil, api.ErrHeld},                                  // the second reference
		{[]uint64{body, 3, 0}, 2, []uint64{body, 3, free}, api.OK},                   // a data word is no reference
		{[]uint64{free + body, 3, 0}, 2, []uint64{free + body, 3, free}, api.OK},     // of a free object, too
		{[]uint64{free, 0, free}, 1, []uint64{free, free, free}, api.OK},             // gaps are not joined
		{[]uint64{free + body, 7, 0}, 2, []uint64{free + body, 7, free}, api.OK},     // others keep their words
		{[]uint64{free}, 0, nil, api.ErrNone},                                        // is free
		{[]uint64{body, 0}, 1, nil, api.ErrNone},                                     // a data word
		{[]uint64{0}, 1, nil, api.ErrNone},                                           // the end
		{nil, 0, nil, api.ErrNone},                                                   // no object at all
		{[]uint64{1, 4, free, 0}, 2, nil, api.ErrNone},                               // free, beside one that is held
		{[]uint64{1, 4, free, 0}, 3, nil, api.ErrHeld},                               // behind a gap
		{[]uint64{1, 4, free, 0}, 0, []uint64{free + body, 0, free, 0}, api.OK},      // holds another one
		{[]uint64{1, 3, tagged, 1, 3}, 3, []uint64{1, 3, tagged, free + body, 0}, 0}, // one of two holders
	} {
		if got, e := Give(c.a, c.at); !slices.Equal(got, c.want) || e != c.e {
			t.Errorf("Give(%v, %d): %v, error %d", c.a, c.at, got, e)
		}
	}
}

func TestGiveErrorsP52(t *testing.T) {
	for _, c := range invalidArenas() {
		for _, at := range positions(3) {
			if b, e := Give(c.a, at); len(b) != 0 || e != c.e {
				t.Errorf("Give(%v, %d): %v, error %d", c.a, at, b, e)
			}
		}
	}
}

// What was taken can be given back, and joined again.
func TestBackP52(t *testing.T) {
	for need := 1; need <= api.MaxWords; need++ {
		a, e := Take(freed(api.MaxWords), 0, api.Head{Refs: need - 1, Tag: 5})
		if e != api.OK || walk.Check(a) != api.OK {
			t.Fatal(need, e, walk.Check(a))
		}
		b, e := Give(a, 0)
		if e != api.OK || walk.Check(b) != api.OK {
			t.Fatal(need, e, walk.Check(b))
		}
		if c, e := Join(b); !slices.Equal(c, freed(api.MaxWords)) || e != api.OK {
			t.Errorf("%d words: %v, error %d", need, c, e)
		}
	}
}
