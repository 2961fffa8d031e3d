package twin

import (
	"math"
	"slices"
	"testing"

	"cairnfield/api"
)

// callAll calls each function and returns the errors. With an error the other
// results must be zero values.
func callAll(t *testing.T, h api.Halves, n int) []api.Errno {
	t.Helper()
	made, e1 := New(n)
	e2 := Check(h)
	take, block, e3 := Take(h, n)
	give, e4 := Give(h, n)
	gaps, e5 := Gaps(h)
	waste, e6 := Waste(h)
	halves := e1 != api.OK && !isZero(made) || e3 != api.OK && !isZero(take) || e4 != api.OK && !isZero(give)
	if halves || e3 != api.OK && block != (api.Run{}) || e5 != api.OK && len(gaps) != 0 || e6 != api.OK && waste != 0 {
		t.Errorf("%v, %d: results with an error", h, n)
	}
	return []api.Errno{e1, e2, e3, e4, e5, e6}
}

// A panic in one of these calls fails the test.
func TestNoPanicP1(t *testing.T) {
	extreme := []int{math.MinInt, -1 << 32, -1, 0, 1, 2, 3, 8, 255, 256, 257, 1 << 32, 1 << 62, math.MaxInt}
	for _, order := range []int{math.MinInt, -1, 0, 1, 8, 9, 62, 63, 64, math.MaxInt} {
		for _, at := range extreme {
			for _, long := range extreme {
				for _, used := range extreme {
					r := api.Room{At: at, Long: long, Used: used}
					callAll(t, api.Halves{Order: order, Taken: []api.Room{r}}, at)
					callAll(t, api.Halves{Order: order, Taken: []api.Room{r, r}}, long)
					callAll(t, api.Halves{Order: order, Taken: []api.Room{{At: 0, Long: 1, Used: 1}, r}}, used)
				}
			}
		}
	}
	for _, n := range extreme {
		callAll(t, api.Halves{Order: 8, Taken: make([]api.Room, 100000)}, n)
	}
}

// sample is a list of three rooms, with three more behind it.
func sample() []api.Room {
	return []api.Room{
		{At: 0, Long: 1, Used: 1}, {At: 2, Long: 2, Used: 2}, {At: 8, Long: 4, Used: 3},
		{At: 7, Long: 7, Used: 7}, {At: 7, Long: 7, Used: 7}, {At: 7, Long: 7, Used: 7},
	}
}

// changers are the functions that return a changed allocator, with arguments
// that are valid for the first three rooms of sample.
func changers() []func(api.Halves) (api.Halves, api.Errno) {
	var l []func(api.Halves) (api.Halves, api.Errno)
	for _, n := range []int{1, 2, 3, 4} {
		l = append(l, func(h api.Halves) (api.Halves, api.Errno) {
			after, _, e := Take(h, n)
			return after, e
		})
	}
	for _, at := range []int{0, 2, 8} {
		l = append(l, func(h api.Halves) (api.Halves, api.Errno) { return Give(h, at) })
	}
	return l
}

// scribble overwrites the memory of a list, its capacity too.
func scribble(l []api.Room) {
	l = l[:cap(l)]
	for i := range l {
		l[i] = api.Room{At: 77, Long: 77, Used: 77}
	}
}

func TestRoomsUnchangedP2(t *testing.T) {
	for i, change := range changers() {
		whole := sample()
		h := api.Halves{Order: 4, Taken: whole[:3]}
		after, e := change(h)
		if e != api.OK || !slices.Equal(whole, sample()) {
			t.Errorf("%d: error %d, argument %v", i, e, whole)
		}
		scribble(after.Taken)
		if !slices.Equal(whole, sample()) {
			t.Errorf("%d: the result shares memory with the argument", i)
		}
		after, _ = change(h)
		want := slices.Clone(after.Taken)
		scribble(whole)
		if !slices.Equal(after.Taken, want) {
			t.Errorf("%d: the result changes with the argument", i)
		}
	}
	whole := sample()
	for n := -1; n <= 17; n++ {
		callAll(t, api.Halves{Order: 4, Taken: whole[:3]}, n)
		if !slices.Equal(whole, sample()) {
			t.Fatal(n, whole)
		}
	}
}

// The results would fit into the capacity of the arguments.
func TestCapacityP2(t *testing.T) {
	whole := sample()
	after, _, e := Take(api.Halves{Order: 4, Taken: whole[:0]}, 2)
	if e != api.OK || !slices.Equal(whole, sample()) {
		t.Error(after, e, whole)
	}
	scribble(after.Taken)
	after, e = Give(api.Halves{Order: 4, Taken: whole[:1]}, 0)
	if e != api.OK || len(after.Taken) != 0 || !slices.Equal(whole, sample()) {
		t.Error(after, e, whole)
	}
	scribble(after.Taken)
	if !slices.Equal(whole, sample()) {
		t.Error(whole)
	}
}

func TestGapsAreNewP2(t *testing.T) {
	h := api.Halves{Order: 4, Taken: sample()[:3]}
	gaps, _ := Gaps(h)
	clear(gaps[:cap(gaps)])
	want := []api.Run{{At: 1, Long: 1}, {At: 4, Long: 4}, {At: 12, Long: 4}}
	if again, e := Gaps(h); !slices.Equal(again, want) || e != api.OK {
		t.Error("Gaps shares memory between calls", again, e)
	}
}

func TestNilIsEmptyP3(t *testing.T) {
	for order := -1; order <= 9; order++ {
		for _, n := range []int{-1, 0, 1, 8, 256, 257} {
			with := callAll(t, api.Halves{Order: order}, n)
			empty := callAll(t, api.Halves{Order: order, Taken: []api.Room{}}, n)
			if !slices.Equal(with, empty) {
				t.Errorf("nil and empty differ for %d, %d: %v, %v", order, n, with, empty)
			}
		}
	}
}

// With an error, no other result says anything.
func TestErrorsGiveZeroP3(t *testing.T) {
	eachHalves(func(h api.Halves) {
		for n := -1; n <= 9; n++ {
			callAll(t, h, n)
		}
	})
	for _, c := range invalidAllocators() {
		callAll(t, c.h, 1)
	}
}

// The order comes before the rooms, and a bad room anywhere is found.
func TestFirstErrorP4(t *testing.T) {
	for at := range 8 {
		var taken []api.Room
		for k := range 8 {
			taken = append(taken, api.Room{At: k, Long: 1, Used: 1})
		}
		taken[at].Used = 0
		for order, want := range map[int]api.Errno{3: api.ErrForm, -1: api.ErrRange, 9: api.ErrRange} {
			if e := Check(api.Halves{Order: order, Taken: taken}); e != want {
				t.Errorf("order %d, room %d: error %d", order, at, e)
			}
		}
	}
}
