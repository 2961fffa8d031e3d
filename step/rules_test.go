package step

import (
	"math"
	"slices"
	"testing"

	"cairnfield/api"
)

// result is what one of the functions returns.
type result struct {
	tri  api.Tri
	list []int
	more bool
	e    api.Errno
}

func (r result) equals(s result) bool {
	return equal(r.tri, s.tri) && slices.Equal(r.list, s.list) && r.more == s.more && r.e == s.e
}

// calls are the functions; numbers are the other arguments of Write, and those
// of Start are its list.
func calls() []func(x api.Tri, numbers []int) result {
	return []func(x api.Tri, numbers []int) result{
		func(x api.Tri, numbers []int) result {
			y, e := Start(x.Arena, numbers)
			return result{tri: y, e: e}
		},
		func(x api.Tri, numbers []int) result {
			return result{e: Check(x)}
		},
		func(x api.Tri, numbers []int) result {
			y, more, e := Step(x)
			return result{tri: y, more: more, e: e}
		},
		func(x api.Tri, numbers []int) result {
			y, e := Write(x, numbers[0], numbers[1], numbers[2])
			return result{tri: y, e: e}
		},
		func(x api.Tri, numbers []int) result {
			l, e := Done(x)
			return result{list: l, e: e}
		},
	}
}

// A panic in one of these calls fails the test. With an error the other results
// must be zero values.
func TestNoPanicP1(t *testing.T) {
	arenas := [][]uint64{nil, {1}, {1, 1}, {1, 3, 1, 1}, make([]uint64, 256), make([]uint64, 257), make([]uint64, 100000)}
	for bit := range 64 {
		v := uint64(1) << bit
		arenas = append(arenas, []uint64{v}, []uint64{1, v}, []uint64{1, v - 1}, []uint64{0, 2, 1, v - 1})
	}
	numbers := []int{math.MinInt, -1 << 32, -1, 0, 1, 2, 255, 256, 257, 1 << 32, math.MaxInt}
	for _, a := range arenas {
		for i, v := range numbers {
			for _, w := range numbers {
				u := numbers[(i+5)%len(numbers)]
				for _, x := range []api.Tri{{Arena: a}, {Arena: a, Grey: []int{v}}, {Arena: a, Black: []int{v, w}}, {Arena: a, Grey: []int{w}, Black: []int{v}}} {
					for k, call := range calls() {
						got := call(x, []int{v, w, u})
						if got.e != api.OK && !got.equals(result{e: got.e}) {
							t.Errorf("%d, %v: %v", k, x, got)
						}
					}
				}
			}
		}
	}
}

// kept has the lists of which arguments are made, with more behind them.
type kept struct {
	arena                    []uint64
	grey, black, write, from []int
}

// sample has a black object at word 0, one at word 4 that is grey, one at word
// 6, and a free one.
func sample() kept {
	return kept{
		arena: []uint64{2 + body, 5, 5, 7, 1, 7, 0, free + body, 3, 1, 8, 8},
		grey:  []int{4, 6, 70, 71},
		black: []int{0, 4, 6, 72, 73},
		write: []int{0, 1, 6, 74, 75},
		from:  []int{6, 0, 4, 76, 77},
	}
}

func (k kept) equals(l kept) bool {
	return slices.Equal(k.arena, l.arena) && slices.Equal(k.grey, l.grey) && slices.Equal(k.black, l.black) &&
		slices.Equal(k.write, l.write) && slices.Equal(k.from, l.from)
}

// args are three states, of which only the first one has a grey object, and two
// lists of numbers: the first one is valid for Write, the second one for Start.
func (k kept) args() (states []api.Tri, numbers [][]int) {
	states = []api.Tri{
		{Arena: k.arena[:9], Grey: k.grey[:1], Black: k.black[:1]},
		{Arena: k.arena[:9], Black: k.black[:3]},
		{Arena: k.arena[:9]},
	}
	return states, [][]int{k.write[:3], k.from[:3]}
}

// scribble overwrites the memory of a list, its capacity too.
func scribble[T any](l []T, v T) {
	l = l[:cap(l)]
	for i := range l {
		l[i] = v
	}
}

func (k kept) spoil() {
	scribble(k.arena, 99)
	scribble(k.grey, 99)
	scribble(k.black, 99)
	scribble(k.write, 99)
	scribble(k.from, 99)
}

func (r result) spoil() {
	scribble(r.tri.Arena, 99)
	scribble(r.tri.Grey, 99)
	scribble(r.tri.Black, 99)
	scribble(r.list, 99)
}

// each calls check with all functions and all arguments of the samples. It
// gets the arguments anew with each call of run.
func each(check func(name [3]int, run func(k kept) result)) {
	for i, call := range calls() {
		for s := range 3 {
			for n := range 2 {
				check([3]int{i, s, n}, func(k kept) result {
					states, numbers := k.args()
					return call(states[s], numbers[n])
				})
			}
		}
	}
}

func TestArgumentsUnchangedP2(t *testing.T) {
	done := 0
	each(func(name [3]int, run func(k kept) result) {
		k := sample()
		got := run(k)
		if !k.equals(sample()) {
			t.Errorf("%v: arguments %v", name, k)
		}
		if got.e == api.OK {
			done++
		}
		got.spoil()
		if !k.equals(sample()) {
			t.Errorf("%v: the result shares memory with an argument", name)
		}
	})
	if done < 20 {
		t.Errorf("only %d calls without an error", done)
	}
}

func TestResultsAreNewP2(t *testing.T) {
	each(func(name [3]int, run func(k kept) result) {
		k := sample()
		got, want := run(k), run(sample())
		k.spoil()
		again := run(sample())
		if !got.equals(want) || !again.equals(want) {
			t.Errorf("%v: %v, %v, not %v", name, got, again, want)
		}
		again.spoil()
		if !got.equals(want) {
			t.Errorf("%v: results of two calls share memory", name)
		}
	})
}

// The three lists of a result share no memory with each other.
func TestPartsAreNewP2(t *testing.T) {
	each(func(name [3]int, run func(k kept) result) {
		want := run(sample()).tri
		got := run(sample()).tri
		scribble(got.Grey, 99)
		if !slices.Equal(got.Black, want.Black) || !slices.Equal(got.Arena, want.Arena) {
			t.Errorf("%v: Grey shares memory: %v, not %v", name, got, want)
		}
		scribble(got.Black, 98)
		if len(got.Grey) > 0 && got.Grey[0] != 99 {
			t.Errorf("%v: Black shares memory: %v", name, got)
		}
	})
}

func TestNilIsEmptyP3(t *testing.T) {
	for i, call := range calls() {
		for _, numbers := range [][]int{{0, 0, -1}, {0, 0, 0}} {
			for _, a := range [][]uint64{{0}, {1, 1}, {1}} {
				with := call(api.Tri{Arena: a}, numbers)
				if empty := call(api.Tri{Arena: a, Grey: []int{}, Black: []int{}}, numbers); !with.equals(empty) {
					t.Errorf("%d, %v: %v, %v", i, a, with, empty)
				}
			}
			with := call(api.Tri{}, numbers)
			if empty := call(api.Tri{Arena: []uint64{}, Grey: []int{}, Black: []int{}}, numbers); !with.equals(empty) {
				t.Errorf("%d: %v, %v", i, with, empty)
			}
		}
	}
	x, e := Start([]uint64{0}, nil)
	if y, f := Start([]uint64{0}, []int{}); !equal(x, y) || e != f {
		t.Error(x, e, y, f)
	}
}

// Words and numbers in the capacity of a list do not belong to it.
func TestCapacityDoesNotCountP3(t *testing.T) {
	wide := make([]uint64, 300)
	if x, e := Start(wide[:256], []int{255, 300}[:1]); !slices.Equal(x.Grey, []int{255}) || e != api.OK {
		t.Error(x, e)
	}
	x := api.Tri{Arena: wide[:2], Grey: []int{1, 0}[:1], Black: []int{0, 0}[:1]}
	if e := Check(x); e != api.OK {
		t.Error(e)
	}
	if e := Check(api.Tri{Arena: wide[:2], Grey: []int{2}}); e != api.ErrNone {
		t.Error(e)
	}
}

// A state that was returned is valid for all functions, and for any number of
// calls.
func TestSameAgainP2(t *testing.T) {
	each(func(name [3]int, run func(k kept) result) {
		got := run(sample())
		if e := Check(got.tri); e != api.OK {
			t.Errorf("%v: %v has the error %d", name, got.tri, e)
		}
		if again := run(sample()); !again.equals(got) {
			t.Errorf("%v: %v, then %v", name, got, again)
		}
	})
}
