package same

import (
	"math"
	"slices"
	"testing"

	"cairnfield/api"
	"cairnfield/tint"
)

// checkAny expects what the document says for any two heaps.
func checkAny(t *testing.T, a []uint64, from []int, b []uint64, too []int) {
	t.Helper()
	_, e := tint.Reach(a, from)
	if e == api.OK {
		checkForm(t, a, from, formOf(a, from), api.OK)
	} else {
		checkForm(t, a, from, api.Form{}, e)
	}
	if e == api.OK {
		_, e = tint.Reach(b, too)
	}
	checkAlike(t, a, from, b, too, e == api.OK && mapped(a, from, b, too), e)
}

// A panic in one of these calls fails the test.
func TestNoPanicP1(t *testing.T) {
	arenas := [][]uint64{nil, {1}, {1, 1}, {1, 3, 1, 1}, make([]uint64, 256), make([]uint64, 257), make([]uint64, 10000)}
	for bit := range 64 {
		v := uint64(1) << bit
		arenas = append(arenas, []uint64{v}, []uint64{1, v}, []uint64{0, 2, 1, v - 1})
	}
	numbers := append(wide(), -1, 0, 1)
	for i, a := range arenas {
		for _, v := range numbers {
			for _, b := range [][]uint64{{0}, {1, 1}, arenas[(i+1)%len(arenas)]} {
				checkAny(t, a, nil, b, nil)
				checkAny(t, a, []int{v}, b, []int{0})
				checkAny(t, a, []int{0}, b, []int{v})
				checkAny(t, a, []int{0, v, 1}, b, []int{0, 0, 0})
			}
		}
	}
}

// A panic in one of these calls fails the test.
func TestNoPanicBuildP1(t *testing.T) {
	numbers := append(wide(), -1, 0, 1, 65535, 65536)
	for _, v := range numbers {
		for _, w := range numbers {
			for _, long := range []int{0, 1, 255, 256, 257} {
				for _, n := range []int{v, w, 0, 256} {
					body := make([]uint64, long)
					refs := slices.Repeat([]int{w}, long)
					checkAnyBuild(t, api.Form{Objects: []api.Object{{Tag: v, Body: body}}, From: []int{w}}, n)
					checkAnyBuild(t, api.Form{Objects: []api.Object{{}, {Refs: refs}}, From: []int{1, v}}, n)
					checkAnyBuild(t, api.Form{Objects: []api.Object{{Tag: v, Free: true, Body: body, Refs: refs[:long/2]}}, From: []int{w}}, n)
				}
			}
		}
	}
}

// A list may be longer than an arena.
func TestLongListsP1(t *testing.T) {
	long := make([]int, 100000)
	one := []api.Object{{}}
	checkForm(t, []uint64{0}, long, api.Form{Objects: one, From: long}, api.OK)
	checkAlike(t, []uint64{0}, long, []uint64{free, 0}, slices.Repeat([]int{1}, 100000), true, api.OK)
	checkAlike(t, []uint64{0}, long, []uint64{0, 0}, append(make([]int, 99999), 1), false, api.OK)
	checkBuild(t, api.Form{Objects: one, From: long}, 1, []uint64{0}, long, api.OK)
	checkBuild(t, api.Form{Objects: make([]api.Object, 100000), From: long}, 256, nil, nil, api.ErrFull)
	for i := range long {
		long[i] = i
	}
	checkErrors(t, []uint64{0}, long, api.ErrNone)
	checkBuild(t, api.Form{Objects: one, From: long}, 1, nil, nil, api.ErrNone)
}

// given are arguments, with more behind them.
type given struct {
	arena, other []uint64
	from, too    []int
	form         api.Form
}

// sample has objects at words 1 and 4 of the first arena and 0 and 2 of the
// other one; its form is that of the two.
func sample() given {
	return given{
		arena: []uint64{free, 1 + body, 5, 9, tagged + body, 7, 0, 0, 0},
		other: []uint64{tagged + body, 7, 1 + body, 1, 9, 0, 0},
		from:  []int{1, 4, 1, 4, 4},
		too:   []int{2, 0, 2, 0, 0},
		form: api.Form{
			Objects: []api.Object{
				{Refs: []int{1, 5, 5}, Body: []uint64{9, 5, 5}},
				{Tag: 5, Refs: []int{5, 5}, Body: []uint64{7, 5, 5}},
				{Tag: 3}, {Tag: 3},
			},
			From: []int{0, 1, 0, 5, 5},
		},
	}
}

// short returns the arguments without what is behind them.
func (g given) short() given {
	l := slices.Clone(g.form.Objects)
	l[0].Refs, l[0].Body = l[0].Refs[:1], l[0].Body[:1]
	l[1].Refs, l[1].Body = l[1].Refs[:0], l[1].Body[:1]
	return given{
		arena: g.arena[:6], other: g.other[:5], from: g.from[:3], too: g.too[:3],
		form: api.Form{Objects: l[:2], From: g.form.From[:3]},
	}
}

func (g given) equals(h given) bool {
	return slices.Equal(g.arena, h.arena) && slices.Equal(g.other, h.other) &&
		slices.Equal(g.from, h.from) && slices.Equal(g.too, h.too) && equalForms(g.form, h.form)
}

func (g given) scribble() {
	scribble(g.arena, 99)
	scribble(g.other, 99)
	scribble(g.from, 99)
	scribble(g.too, 99)
	scribbleForm(g.form)
}

// outcome is what the functions return.
type outcome struct {
	form  api.Form
	is    bool
	arena []uint64
	from  []int
}

// results calls the functions without what is behind the arguments.
func (g given) results(t *testing.T) outcome {
	t.Helper()
	s := g.short()
	var o outcome
	var e [3]api.Errno
	o.form, e[0] = Form(s.arena, s.from)
	o.is, e[1] = Alike(s.arena, s.from, s.other, s.too)
	o.arena, o.from, e[2] = Build(s.form, 6)
	if e != [3]api.Errno{} {
		t.Fatalf("%v: errors %d", g, e)
	}
	return o
}

func (o outcome) check(t *testing.T, when string) {
	t.Helper()
	f := api.Form{Objects: []api.Object{{Refs: []int{1}, Body: []uint64{9}}, {Tag: 5, Body: []uint64{7}}}, From: []int{0, 1, 0}}
	a := []uint64{1 + body, 4, 9, tagged + body, 7, free}
	if !equalForms(o.form, f) || !o.is || !slices.Equal(o.arena, a) || !slices.Equal(o.from, []int{0, 3, 0}) {
		t.Errorf("%s: %v", when, o)
	}
}

func (o outcome) scribble() {
	scribbleForm(o.form)
	scribble(o.arena, 99)
	scribble(o.from, 99)
}

// scribble overwrites the memory of a list, its capacity too.
func scribble[T any](l []T, v T) {
	l = l[:cap(l)]
	for i := range l {
		l[i] = v
	}
}

func scribbleForm(f api.Form) {
	for _, o := range f.Objects {
		scribble(o.Refs, 99)
		scribble(o.Body, 99)
	}
	scribble(f.Objects, api.Object{Tag: 99})
	scribble(f.From, 99)
}

func TestArgumentsUnchangedP2(t *testing.T) {
	g := sample()
	o := g.results(t)
	o.check(t, "first call")
	if !g.equals(sample()) {
		t.Errorf("arguments %v", g)
	}
	o.scribble()
	if !g.equals(sample()) {
		t.Errorf("a result shares memory with an argument: %v", g)
	}
}

// The list of descriptions, too, has more behind it.
func TestObjectsUnchangedP2(t *testing.T) {
	g := sample()
	l := g.form.Objects
	l[0].Refs, l[0].Body, l[1].Refs, l[1].Body = l[0].Refs[:1], l[0].Body[:1], nil, l[1].Body[:1]
	if _, _, e := Build(api.Form{Objects: l[:2], From: []int{1}}, 256); e != api.OK {
		t.Fatalf("error %d", e)
	}
	l[0].Refs, l[0].Body, l[1].Refs, l[1].Body = l[0].Refs[:3], l[0].Body[:3], sample().form.Objects[1].Refs, l[1].Body[:3]
	if !g.equals(sample()) {
		t.Errorf("arguments %v", g)
	}
}

func TestResultsAreNewP2(t *testing.T) {
	g := sample()
	o := g.results(t)
	g.scribble()
	o.check(t, "after the arguments were changed")
	again := sample().results(t)
	again.scribble()
	o.check(t, "after other results were changed")
}

// changes returns in how many lists two forms of the same size differ.
func changes(f, g api.Form) int {
	n := 0
	if !slices.Equal(f.From, g.From) {
		n++
	}
	for i, o := range f.Objects {
		if !slices.Equal(o.Refs, g.Objects[i].Refs) {
			n++
		}
		if !slices.Equal(o.Body, g.Objects[i].Body) {
			n++
		}
	}
	return n
}

// From and the Refs are the same numbers here, and so are the two Bodies, but
// each list has its own memory.
func TestPartsAreNewP2(t *testing.T) {
	a := []uint64{2 + body, 1, 5, 5, 2 + body, 1, 5, 5}
	f, e := Form(a, []int{0, 4})
	want := formOf(a, []int{0, 4})
	if e != api.OK || !equalForms(f, want) {
		t.Fatalf("%v, error %d", f, e)
	}
	parts := []func(f api.Form){
		func(f api.Form) { scribble(f.From, 99) },
		func(f api.Form) { scribble(f.Objects[0].Refs, 99) },
		func(f api.Form) { scribble(f.Objects[1].Refs, 99) },
		func(f api.Form) { scribble(f.Objects[0].Body, 99) },
		func(f api.Form) { scribble(f.Objects[1].Body, 99) },
	}
	for i, change := range parts {
		f, _ := Form(a, []int{0, 4})
		again, _ := Form(a, []int{0, 4})
		change(again)
		if !equalForms(f, want) {
			t.Errorf("part %d: results share memory: %v", i, f)
		}
		if changes(again, want) != 1 {
			t.Errorf("part %d: parts share memory: %v", i, again)
		}
	}
}

func TestNilIsEmptyP3(t *testing.T) {
	for _, a := range [][]uint64{nil, {}} {
		for _, from := range [][]int{nil, {}} {
			checkForm(t, a, from, api.Form{}, api.OK)
			checkForm(t, []uint64{0}, from, api.Form{}, api.OK)
			for _, b := range [][]uint64{nil, {}, {0}} {
				for _, too := range [][]int{nil, {}} {
					checkAlike(t, a, from, b, too, true, api.OK)
					checkAlike(t, b, from, a, too, true, api.OK)
				}
			}
			checkErrors(t, a, []int{0}, api.ErrNone)
			for _, l := range [][]api.Object{nil, {}} {
				checkBuild(t, api.Form{Objects: l, From: from}, 0, nil, nil, api.OK)
				checkBuild(t, api.Form{Objects: l, From: from}, 1, []uint64{free}, nil, api.OK)
				checkBuild(t, api.Form{Objects: l, From: []int{0}}, 1, nil, nil, api.ErrNone)
			}
			l := []api.Object{{Refs: from, Body: a}}
			checkBuild(t, api.Form{Objects: l, From: []int{0}}, 1, []uint64{0}, []int{0}, api.OK)
			l[0].Free = true
			checkBuild(t, api.Form{Objects: l, From: from}, 1, []uint64{free}, nil, api.OK)
		}
	}
}

// With an error, no part of a result that is there already is returned.
func TestErrorsGiveZeroP3(t *testing.T) {
	f, e := Form([]uint64{0, 0}, []int{0, 1, 2})
	if e != api.ErrNone || len(f.Objects)+len(f.From) > 0 {
		t.Errorf("%v, error %d", f, e)
	}
	a, from, e := Build(api.Form{Objects: []api.Object{{}}, From: []int{0, 1}}, 1)
	if e != api.ErrNone || len(a)+len(from) > 0 {
		t.Errorf("%v, %v, error %d", a, from, e)
	}
	is, e := Alike(nil, nil, nil, []int{0})
	if is || e != api.ErrNone {
		t.Errorf("%v, error %d", is, e)
	}
}

// Words and numbers in the capacity of a list do not belong to it.
func TestCapacityDoesNotCountP3(t *testing.T) {
	wide := make([]uint64, 300)
	for _, behind := range []int{0, 1, 9} {
		from := []int{1, behind}
		checkForm(t, wide[:2], from[:1], api.Form{Objects: []api.Object{{}}, From: []int{0}}, api.OK)
		checkAlike(t, wide[:2], from[:1], wide[:3], []int{2}, true, api.OK)
		checkAlike(t, wide[:3], []int{2}, wide[:2], from[:1], true, api.OK)
		l := make([]api.Object, 300)
		checkBuild(t, api.Form{Objects: l[:2], From: from[:1]}, 2, []uint64{0, 0}, []int{1}, api.OK)
		checkBuild(t, api.Form{Objects: l[:1], From: from}, 2, nil, nil, api.ErrNone)
		l[0] = api.Object{Refs: []int{-1, behind}[:1], Body: wide[:2]}
		checkBuild(t, api.Form{Objects: l[:1]}, 4, []uint64{1 + 2*body, 0, 0, 0}, nil, api.OK)
	}
	checkErrors(t, wide[:2], []int{2}, api.ErrNone)
	checkErrors(t, wide[:257], []int{math.MaxInt}, api.ErrLarge)
	checkForm(t, wide[:256], []int{255}, api.Form{Objects: []api.Object{{}}, From: []int{0}}, api.OK)
}
