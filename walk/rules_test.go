package walk

import (
	"math"
	"slices"
	"testing"

	"cairnfield/api"
)

// callAll calls each function and returns the errors. With an error the other
// results must be zero values.
func callAll(t *testing.T, a []uint64, l []api.Object, n int) []api.Errno {
	t.Helper()
	spots, e1 := Spots(a)
	e2 := Check(a)
	arena, e3 := Lay(l, n)
	objects, e4 := Objects(a)
	o, e5 := At(a, n)
	if e1 != api.OK && len(spots) != 0 || e3 != api.OK && len(arena) != 0 || e4 != api.OK && len(objects) != 0 {
		t.Errorf("%v, %v, %d: %v, %v, %v, errors %d, %d, %d", a, l, n, spots, arena, objects, e1, e3, e4)
	}
	if e5 != api.OK && !same(o, api.Object{}) {
		t.Errorf("At(%v, %d): %v, error %d", a, n, o, e5)
	}
	return []api.Errno{e1, e2, e3, e4, e5}
}

// bits are words with a single bit, alone and behind a header.
func bits() [][]uint64 {
	var all [][]uint64
	for bit := range 64 {
		v := uint64(1) << bit
		all = append(all, []uint64{v}, []uint64{1, v}, []uint64{1, v - 1}, []uint64{v, v, v}, []uint64{0, 0, v - 1})
	}
	return all
}

// A panic in one of these calls fails the test.
func TestNoPanicP1(t *testing.T) {
	for _, n := range []int{math.MinInt, -1, 0, 1, 3, 256, 257, 1 << 32, math.MaxInt} {
		for _, a := range append(bits(), make([]uint64, 256), make([]uint64, 257), make([]uint64, 100000)) {
			callAll(t, a, nil, n)
		}
		for _, i := range []int{math.MinInt, -1 << 32, -2, -1, 0, 1, 2, 256, 1 << 32, math.MaxInt} {
			callAll(t, nil, []api.Object{{Tag: i}, {Refs: []int{i}}, {Refs: []int{0, i}}}, n)
			callAll(t, nil, []api.Object{{Refs: []int{i}}, {Free: true}}, n)
		}
		callAll(t, nil, make([]api.Object, 100000), n)
		callAll(t, nil, []api.Object{{Refs: make([]int, 100000), Body: make([]uint64, 100000)}}, n)
	}
}

func TestArenaUnchangedP2(t *testing.T) {
	start := []uint64{2 + body, 1, 5, 7, 1, 5, free + body, 3, 8, 8, 8}
	whole := slices.Clone(start)
	a := whole[:8]
	for at := range 9 {
		callAll(t, a, nil, at)
		if !slices.Equal(whole, start) {
			t.Fatal(whole)
		}
	}
	l, e := Objects(a)
	if len(l) != 3 || e != api.OK {
		t.Fatal(l, e)
	}
	want, _ := Objects(start[:8])
	o, _ := At(a, 0)
	for i := range l {
		scribble(l[i])
	}
	if !same(o, want[0]) || !slices.Equal(whole, start) {
		t.Error("Objects shares memory", o, whole)
	}
	scribble(o)
	if again, _ := Objects(a); !slices.EqualFunc(again, want, same) || !slices.Equal(whole, start) {
		t.Error("At shares memory", again, whole)
	}
}

// scribble overwrites the memory of an object, its capacity too.
func scribble(o api.Object) {
	refs, words := o.Refs[:cap(o.Refs)], o.Body[:cap(o.Body)]
	for i := range refs {
		refs[i] = 77
	}
	for i := range words {
		words[i] = 77
	}
}

// The objects of one result share no memory with each other.
func TestPartsAreNewP2(t *testing.T) {
	a := []uint64{1 + body, 1, 4, 1 + body, 4, 5, free + body, 6}
	want, _ := Objects(a)
	for i := range want {
		l, _ := Objects(a)
		scribble(l[i])
		for k := range l {
			if k != i && !same(l[k], want[k]) {
				t.Errorf("object %d changes with object %d", k, i)
			}
		}
	}
}

func TestListUnchangedP2(t *testing.T) {
	refs := []int{1, -1, 9, 9}
	words := []uint64{3, 4, 9, 9}
	list := []api.Object{{Refs: refs[:2], Body: words[:2]}, {Refs: refs[:1:2], Body: words[1:2]}, {Tag: 6}, {Tag: 6}}
	for _, n := range []int{-1, 0, 8, 9, 20} {
		a, _ := Lay(list[:2], n)
		a = a[:cap(a)]
		for i := range a {
			a[i] = 77
		}
		unchanged := slices.Equal(refs, []int{1, -1, 9, 9}) && slices.Equal(words, []uint64{3, 4, 9, 9})
		if !unchanged || !same(list[2], api.Object{Tag: 6}) || !same(list[3], api.Object{Tag: 6}) {
			t.Fatal(n, refs, words, list)
		}
	}
	a, _ := Lay(list[:2], 9)
	want := slices.Clone(a)
	clear(refs)
	clear(words)
	clear(list)
	if !slices.Equal(a, want) {
		t.Error(a, want)
	}
}

func TestNilIsEmptyP3(t *testing.T) {
	for _, n := range []int{-1, 0, 1, 256, 257} {
		if !slices.Equal(callAll(t, nil, nil, n), callAll(t, []uint64{}, []api.Object{}, n)) {
			t.Errorf("nil and empty arenas or lists differ for %d", n)
		}
		with, e := Lay([]api.Object{{Tag: 1}}, n)
		empty, f := Lay([]api.Object{{Tag: 1, Refs: []int{}, Body: []uint64{}}}, n)
		if e != f || !slices.Equal(with, empty) {
			t.Errorf("nil and empty Refs or Body differ for %d", n)
		}
	}
}

// With an error, no other result says anything.
func TestErrorsGiveZeroP3(t *testing.T) {
	eachArena(func(a []uint64) { callAll(t, a, nil, len(a)/2) })
	eachList(func(l []api.Object) { callAll(t, nil, l, 4) })
}

// The first object with an error determines it.
func TestFirstErrorP4(t *testing.T) {
	bad := []api.Object{{Tag: -1}, {Tag: 1, Free: true}, {Body: make([]uint64, 256)}}
	want := []api.Errno{api.ErrRange, api.ErrForm, api.ErrLarge}
	for i := range bad {
		for k := range bad {
			if _, e := Lay([]api.Object{{}, bad[i], bad[k]}, 256); e != want[i] {
				t.Errorf("errors %d and %d: %d", want[i], want[k], e)
			}
		}
	}
}
