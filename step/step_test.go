package step

import (
	"math"
	"slices"
	"testing"

	"cairnfield/api"
	"cairnfield/tint"
	"cairnfield/walk"
)

const (
	free = 1 << 48
	body = 1 << 16
)

// The colors of the model are letters, those of a free object '-'.
const (
	isWhite = 'w'
	isGrey  = 'g'
	isBlack = 'b'
	isFree  = '-'
)

// model is a marking state as a list of objects that refer to each other by
// their indices.
type model struct {
	objects []api.Object
	colors  []byte
}

func modelOf(l []api.Object) model {
	m := model{objects: l}
	for _, o := range l {
		if o.Free {
			m.colors = append(m.colors, isFree)
		} else {
			m.colors = append(m.colors, isWhite)
		}
	}
	return m
}

// with returns a copy of the model with other colors.
func (m model) with(colors string) model {
	n := m.copied()
	n.colors = []byte(colors)
	return n
}

func (m model) copied() model {
	n := model{objects: slices.Clone(m.objects), colors: slices.Clone(m.colors)}
	for i, o := range n.objects {
		n.objects[i].Refs = slices.Clone(o.Refs)
	}
	return n
}

// at returns the word at which object number i starts, or -1 for null.
func (m model) at(i int) int {
	if i < 0 {
		return -1
	}
	n := 0
	for _, o := range m.objects[:i] {
		n += 1 + len(o.Refs) + len(o.Body)
	}
	return n
}

// words returns the words of all objects with a color.
func (m model) words(color byte) []int {
	var l []int
	for i, c := range m.colors {
		if c == color {
			l = append(l, m.at(i))
		}
	}
	return l
}

// tri returns the state in memory of its own.
func (m model) tri(t *testing.T) api.Tri {
	t.Helper()
	a, e := walk.Lay(m.objects, m.at(len(m.objects)))
	if e != api.OK {
		t.Fatalf("%v: error %d", m.objects, e)
	}
	return api.Tri{Arena: a, Grey: m.words(isGrey), Black: m.words(isBlack)}
}

// sound reports whether no black object refers to a white one.
func (m model) sound() bool {
	for i, o := range m.objects {
		for _, to := range o.Refs {
			if m.colors[i] == isBlack && to >= 0 && m.colors[to] == isWhite {
				return false
			}
		}
	}
	return true
}

// stepped returns the model after a step, and whether there was one.
func (m model) stepped() (model, bool) {
	n := m.copied()
	i := slices.Index(n.colors, isGrey)
	if i < 0 {
		return n, false
	}
	n.colors[i] = isBlack
	for _, to := range n.objects[i].Refs {
		if to >= 0 && n.colors[to] == isWhite {
			n.colors[to] = isGrey
		}
	}
	return n, true
}

// written returns the model after a write to object number i.
func (m model) written(i, ref, to int) model {
	n := m.copied()
	n.objects[i].Refs[ref] = to
	if to >= 0 && n.colors[i] == isBlack && n.colors[to] == isWhite {
		n.colors[to] = isGrey
	}
	return n
}

func equal(t, u api.Tri) bool {
	return slices.Equal(t.Arena, u.Arena) && slices.Equal(t.Grey, u.Grey) && slices.Equal(t.Black, u.Black)
}

func isZero(t api.Tri) bool {
	return equal(t, api.Tri{})
}

// checkStep compares a step with the model.
func checkStep(t *testing.T, m model) {
	t.Helper()
	next, more := m.stepped()
	got, moved, e := Step(m.tri(t))
	if want := next.tri(t); !equal(got, want) || moved != more || e != api.OK {
		t.Errorf("Step of %v, %s: %v, %v, error %d, not %v, %v", m.objects, m.colors, got, moved, e, want, more)
	}
}

// checkWrite compares a write to object number i with the model.
func checkWrite(t *testing.T, m model, i, ref, to int) {
	t.Helper()
	want := m.written(i, ref, to).tri(t)
	if got, e := Write(m.tri(t), m.at(i), ref, m.at(to)); !equal(got, want) || e != api.OK {
		t.Errorf("Write(%v, %s, %d, %d, %d): %v, error %d, not %v", m.objects, m.colors, i, ref, to, got, e, want)
	}
}

// checkDone compares Done with the model.
func checkDone(t *testing.T, m model) {
	t.Helper()
	want, f := m.words(isWhite), api.OK
	if slices.Contains(m.colors, isGrey) {
		want, f = nil, api.ErrHeld
	}
	if got, e := Done(m.tri(t)); !slices.Equal(got, want) || e != f {
		t.Errorf("Done of %v, %s: %v, error %d, not %v, error %d", m.objects, m.colors, got, e, want, f)
	}
}

// colorings has all colors of three objects around a free one.
func colorings() []string {
	var all []string
	for _, x := range "wgb" {
		for _, y := range "wgb" {
			for _, z := range "wgb" {
				all = append(all, string([]rune{x, isFree, y, z}))
			}
		}
	}
	return all
}

// eachModel calls check with three objects around a free one that refer to each
// other in all ways, in all colors.
func eachModel(check func(m model)) {
	refs := []int{-1, 0, 2, 3}
	for code := range 4 * 4 * 4 * 4 {
		m := modelOf([]api.Object{
			{Refs: []int{refs[code%4], refs[code/4%4]}, Body: []uint64{3}},
			{Free: true, Body: []uint64{1}},
			{Refs: []int{refs[code/16%4]}, Tag: 9},
			{Refs: []int{refs[code/64]}, Body: []uint64{1, 1}},
		})
		for _, colors := range colorings() {
			check(m.with(colors))
		}
	}
}

// eachSound leaves out the models that are no valid states.
func eachSound(check func(m model)) {
	eachModel(func(m model) {
		if m.sound() {
			check(m)
		}
	})
}

func TestCheckP110(t *testing.T) {
	valid, held := 0, 0
	eachModel(func(m model) {
		want := api.ErrHeld
		if m.sound() {
			want = api.OK
			valid++
		} else {
			held++
		}
		if e := Check(m.tri(t)); e != want {
			t.Errorf("Check of %v, %s: error %d, not %d", m.objects, m.colors, e, want)
		}
	})
	if valid < 1000 || held < 1000 {
		t.Errorf("only %d valid states and %d others", valid, held)
	}
}

// errorOf follows the list of errors of P110.
func errorOf(x api.Tri) api.Errno {
	if e := walk.Check(x.Arena); e != api.OK {
		return e
	}
	both := [][]int{x.Grey, x.Black}
	for _, l := range both {
		if !slices.IsSorted(l) || len(slices.Compact(slices.Clone(l))) != len(l) {
			return api.ErrForm
		}
	}
	spots, _ := walk.Spots(x.Arena)
	isObject := func(at int) bool {
		return slices.ContainsFunc(spots, func(s api.Spot) bool { return s.At == at && !s.Head.Free })
	}
	for _, at := range slices.Concat(both...) {
		if !isObject(at) {
			return api.ErrNone
		}
	}
	for _, at := range x.Grey {
		if slices.Contains(x.Black, at) {
			return api.ErrThere
		}
	}
	reached := slices.Concat(both...)
	for _, s := range spots {
		for _, ref := range x.Arena[s.At+1:][:s.Head.Refs] {
			if slices.Contains(x.Black, s.At) && ref > 0 && !slices.Contains(reached, int(ref)-1) {
				return api.ErrHeld
			}
		}
	}
	return api.OK
}

// lists has all lists of up to three of the numbers.
func lists(numbers ...int) [][]int {
	all := [][]int{nil}
	for first, n := 0, 0; n < 3; n++ {
		last := len(all)
		for _, l := range all[first:last] {
			for _, v := range numbers {
				all = append(all, append(slices.Clone(l), v))
			}
		}
		first = last
	}
	return all
}

// All functions return the error of Check, and with it nothing else, even if
// their other arguments have an error, too.
func checkErrors(t *testing.T, x api.Tri) api.Errno {
	t.Helper()
	want := errorOf(x)
	if e := Check(x); e != want {
		t.Errorf("Check(%v): error %d, not %d", x, e, want)
	}
	if want == api.OK {
		return want
	}
	if got, more, e := Step(x); !isZero(got) || more || e != want {
		t.Errorf("Step(%v): %v, %v, error %d, not %d", x, got, more, e, want)
	}
	if l, e := Done(x); len(l) != 0 || e != want {
		t.Errorf("Done(%v): %v, error %d, not %d", x, l, e, want)
	}
	for _, c := range [][]int{{0, 0, 0}, {0, 0, -1}, {1, 0, 0}, {0, 9, 0}, {0, 0, 1}} {
		if got, e := Write(x, c[0], c[1], c[2]); !isZero(got) || e != want {
			t.Errorf("Write(%v, %v): %v, error %d, not %d", x, c, got, e, want)
		}
	}
	return want
}

func TestErrorsP110(t *testing.T) {
	seen := map[api.Errno]int{}
	arenas := [][]uint64{
		{1, 3, 1, 1, free},       // two objects that refer to each other
		{1, 5, free, 0, 0},       // the first one refers to the last one
		{body, 3, 0, free, 1, 1}, // the last one refers to the first one
		{1, 4, 1, 0, 0},          // a reference into an object
		{1, 1, 1 << 60},          // no header
		{1, 3, free},             // a reference to a free object
		make([]uint64, 257),
		nil,
	}
	for _, a := range arenas {
		for _, grey := range lists(0, 2, 4) {
			for _, black := range lists(0, 2, 3, 4) {
				seen[checkErrors(t, api.Tri{Arena: a, Grey: grey, Black: black})]++
			}
		}
	}
	for _, e := range []api.Errno{api.OK, api.ErrLarge, api.ErrForm, api.ErrNone, api.ErrThere, api.ErrHeld} {
		if seen[e] < 5 {
			t.Errorf("only %d states have the error %d", seen[e], e)
		}
	}
}

func TestErrorExamplesP110(t *testing.T) {
	// The object at word 0 refers to the one at word 4, the one at word 2 to
	// none, word 3 is free, and word 5 is an object.
	a := []uint64{1, 5, 0, free, 0, 0}
	bad := []uint64{1, 7, 0, free, 0, 0}
	for _, c := range []struct {
		arena       []uint64
		grey, black []int
		want        api.Errno
	}{
		{a, nil, nil, api.OK},
		{a, []int{0, 2, 4, 5}, nil, api.OK},
		{a, []int{4}, []int{0}, api.OK},
		{a, nil, []int{0, 4}, api.OK},
		{a, nil, []int{2, 4, 5}, api.OK},
		{a, []int{0}, []int{4}, api.OK},
		{a, []int{2, 2}, nil, api.ErrForm},
		{a, []int{4, 2}, nil, api.ErrForm},
		{a, nil, []int{5, 5}, api.ErrForm},
		{a, nil, []int{2, 5, 4}, api.ErrForm},
		{a, []int{3}, nil, api.ErrNone},
		{a, nil, []int{3}, api.ErrNone},
		{a, []int{1}, nil, api.ErrNone},
		{a, nil, []int{6}, api.ErrNone},
		{a, []int{-1}, nil, api.ErrNone},
		{a, nil, []int{-1}, api.ErrNone},
		{a, []int{2}, []int{2}, api.ErrThere},
		{a, []int{2, 5}, []int{4, 5}, api.ErrThere},
		{a, nil, []int{0}, api.ErrHeld},
		{a, []int{2, 5}, []int{0}, api.ErrHeld},
		// Each of these has the errors that follow, too.
		{append(slices.Clone(bad), make([]uint64, 251)...), []int{2, 1}, []int{0, 0}, api.ErrLarge},
		{append(slices.Clone(bad), 1<<60), []int{2, 1}, []int{0, 0}, api.ErrForm},
		{bad, []int{2, 1}, []int{0, 0}, api.ErrNone},
		{a, []int{3, 1}, []int{0, 3}, api.ErrForm},
		{a, []int{3}, []int{0, 0}, api.ErrForm},
		{a, []int{2, 3}, []int{0, 2}, api.ErrNone},
		{a, []int{2}, []int{0, 2, 3}, api.ErrNone},
		{a, []int{2}, []int{0, 2}, api.ErrThere},
	} {
		x := api.Tri{Arena: c.arena, Grey: c.grey, Black: c.black}
		if e := checkErrors(t, x); e != c.want {
			t.Errorf("%v, %v, %v: error %d, not %d", c.arena, c.grey, c.black, e, c.want)
		}
	}
}

// Numbers that are equal to a word only after a conversion are no words.
func TestWideNumbersP110(t *testing.T) {
	for _, at := range []int{math.MinInt, math.MinInt + 1, -1 << 32, -2, 256, 257, 1 << 32, 1<<32 + 1, math.MaxInt} {
		for _, x := range []api.Tri{{Arena: []uint64{0, 0}, Grey: []int{at}}, {Arena: []uint64{0, 0}, Black: []int{at}}} {
			if e := checkErrors(t, x); e != api.ErrNone {
				t.Errorf("%v: error %d", x, e)
			}
		}
	}
}

func TestStartP110(t *testing.T) {
	eachModel(func(m model) {
		if slices.Contains(m.colors, isBlack) {
			return
		}
		want := m.tri(t)
		for _, from := range [][]int{want.Grey, backwards(want.Grey), slices.Concat(want.Grey, want.Grey)} {
			if got, e := Start(want.Arena, from); !equal(got, want) || e != api.OK {
				t.Errorf("Start(%v, %v): %v, error %d", m.objects, from, got, e)
			}
		}
	})
}

func backwards(l []int) []int {
	m := slices.Clone(l)
	slices.Reverse(m)
	return m
}

// A list may be longer than an arena.
func TestStartLongListP110(t *testing.T) {
	got, e := Start([]uint64{0, 0, 0}, slices.Repeat([]int{2, 0}, 50000))
	if want := (api.Tri{Arena: []uint64{0, 0, 0}, Grey: []int{0, 2}}); !equal(got, want) || e != api.OK {
		t.Errorf("%v, error %d", got, e)
	}
}

func TestStartErrorsP110(t *testing.T) {
	for _, a := range [][]uint64{nil, {0}, {1, 3, 0}, {1, 3, free}, {1, 2, 0}, {2, 0}, {free + body, 0, 0}, make([]uint64, 256), make([]uint64, 257)} {
		for _, from := range slices.Concat(lists(-1, 0, 1, 2), [][]int{{256}, {255}, {math.MaxInt}, {math.MinInt}}) {
			got, e := Start(a, from)
			if _, want := tint.Reach(a, from); e != want || e != api.OK && !isZero(got) {
				t.Errorf("Start(%v, %v): %v, error %d, not %d", a, from, got, e, want)
			}
		}
	}
}

func TestStepP111(t *testing.T) {
	eachSound(func(m model) { checkStep(t, m) })
}

func TestStepExamplesP111(t *testing.T) {
	// The example of the chapter.
	x, e := Start([]uint64{0}, []int{0})
	if e != api.OK {
		t.Fatal(e)
	}
	for _, want := range []bool{true, false, false} {
		var more bool
		if x, more, e = Step(x); more != want || !slices.Equal(x.Black, []int{0}) || len(x.Grey) != 0 || e != api.OK {
			t.Errorf("%v, %v, error %d", x, more, e)
		}
	}
	// An object before the scanned one becomes grey, and is scanned next.
	x = api.Tri{Arena: []uint64{0, 1, 1, 0}, Grey: []int{1, 3}}
	for i, want := range []api.Tri{{Grey: []int{0, 3}, Black: []int{1}}, {Grey: []int{3}, Black: []int{0, 1}}, {Black: []int{0, 1, 3}}} {
		want.Arena = x.Arena
		var more bool
		if x, more, e = Step(x); !equal(x, want) || !more || e != api.OK {
			t.Errorf("%d: %v, %v, error %d", i, x, more, e)
		}
	}
	// An object that refers to itself is not reached again.
	x, more, e := Step(api.Tri{Arena: []uint64{2, 1, 1}, Grey: []int{0}})
	if len(x.Grey) != 0 || !slices.Equal(x.Black, []int{0}) || !more || e != api.OK {
		t.Errorf("%v, %v, error %d", x, more, e)
	}
	if x, more, e := Step(api.Tri{}); !isZero(x) || more || e != api.OK {
		t.Errorf("%v, %v, error %d", x, more, e)
	}
}

func TestWriteP111(t *testing.T) {
	eachSound(func(m model) {
		for i, o := range m.objects {
			for ref := range o.Refs {
				for _, to := range []int{-1, 0, 2, 3} {
					checkWrite(t, m, i, ref, to)
				}
			}
		}
	})
}

// Only a black object makes a white one grey.
func TestWriteColorsP111(t *testing.T) {
	a := []uint64{1, 0, 0}
	for _, c := range []struct {
		grey, black, wantGrey []int
	}{
		{nil, []int{0}, []int{2}},
		{nil, []int{0, 2}, nil},
		{[]int{2}, []int{0}, []int{2}},
		{[]int{0}, nil, []int{0}},
		{[]int{0}, []int{2}, []int{0}},
		{nil, nil, nil},
		{[]int{2}, nil, []int{2}},
		{nil, []int{2}, nil},
	} {
		got, e := Write(api.Tri{Arena: a, Grey: c.grey, Black: c.black}, 0, 0, 2)
		if want := (api.Tri{Arena: []uint64{1, 3, 0}, Grey: c.wantGrey, Black: c.black}); !equal(got, want) || e != api.OK {
			t.Errorf("%v, %v: %v, error %d", c.grey, c.black, got, e)
		}
	}
}

func TestWriteErrorsP111(t *testing.T) {
	// Objects at words 0, with 2 references and a data word, and 6, with 1
	// reference; word 4 is free.
	x := api.Tri{Arena: []uint64{2 + body, 7, 0, 7, free + body, 1, 1, 0}, Grey: []int{6}, Black: []int{0}}
	wide := []int{math.MinInt, math.MinInt + 1, -1 << 32, -2, -1, 0, 1, 2, 3, 4, 5, 6, 7, 8, 255, 256, 1 << 32, 1<<32 + 6, math.MaxInt - 1, math.MaxInt}
	refs := map[int]int{0: 2, 6: 1}
	for _, at := range wide {
		for _, ref := range wide {
			for _, to := range wide {
				want := api.OK
				if count, ok := refs[at]; !ok {
					want = api.ErrNone
				} else if ref < 0 || ref >= count || to != -1 && to != 0 && to != 6 {
					want = api.ErrRange
				}
				if got, e := Write(x, at, ref, to); e != want || e != api.OK && !isZero(got) {
					t.Errorf("Write(%d, %d, %d): %v, error %d, not %d", at, ref, to, got, e, want)
				}
			}
		}
	}
}

func TestDoneP111(t *testing.T) {
	eachSound(func(m model) { checkDone(t, m) })
}

// An object that nothing reached is done with from the beginning.
func TestDoneNothingP111(t *testing.T) {
	x, e := Start([]uint64{0, free, 1, 1}, nil)
	if e != api.OK {
		t.Fatal(e)
	}
	if l, e := Done(x); !slices.Equal(l, []int{0, 2}) || e != api.OK {
		t.Error(l, e)
	}
	if l, e := Done(api.Tri{}); len(l) != 0 || e != api.OK {
		t.Error(l, e)
	}
}

// picker returns numbers below n that are always the same.
func picker() func(n int) int {
	seed := uint32(1)
	return func(n int) int {
		seed = seed*1664525 + 1013904223
		return int(seed>>8) % n
	}
}

// largeModel fills an arena with objects of many sizes, some of them free,
// that refer to each other.
func largeModel(pick func(n int) int) model {
	var l []api.Object
	for n := 0; n < api.MaxWords; {
		o := api.Object{Refs: make([]int, pick(5)), Body: make([]uint64, pick(3))}
		if pick(5) == 0 {
			o = api.Object{Free: true, Body: o.Body}
		}
		if n += 1 + len(o.Refs) + len(o.Body); n <= api.MaxWords {
			l = append(l, o)
		}
	}
	m := modelOf(l)
	for _, o := range l {
		for k := range o.Refs {
			o.Refs[k] = m.pickObject(pick)
		}
	}
	return m
}

// pickObject returns the index of an object that is not free, or -1.
func (m model) pickObject(pick func(n int) int) int {
	i := pick(len(m.objects))
	if pick(6) == 0 || m.objects[i].Free {
		return -1
	}
	return i
}

// change returns the state and the model after a write.
func change(t *testing.T, x api.Tri, m model, pick func(n int) int) (api.Tri, model) {
	t.Helper()
	i := pick(len(m.objects))
	if len(m.objects[i].Refs) == 0 {
		return x, m
	}
	ref, to := pick(len(m.objects[i].Refs)), m.pickObject(pick)
	y, e := Write(x, m.at(i), ref, m.at(to))
	if e != api.OK {
		t.Fatalf("Write(%v, %d, %d, %d): error %d", x, i, ref, to, e)
	}
	return y, m.written(i, ref, to)
}

// No reachable object is lost, although the heap is changed between the steps.
func TestNothingLostP111(t *testing.T) {
	pick := picker()
	for range 60 {
		m := largeModel(pick)
		var from []int
		for range pick(4) {
			if i := m.pickObject(pick); i >= 0 {
				from = append(from, m.at(i))
				m.colors[i] = isGrey
			}
		}
		x, e := Start(m.tri(t).Arena, from)
		for more := true; more && e == api.OK; {
			for range pick(3) {
				x, m = change(t, x, m, pick)
			}
			var want bool
			m, want = m.stepped()
			if x, more, e = Step(x); more != want || e != api.OK {
				t.Fatalf("%v: %v, error %d", x, more, e)
			}
		}
		if want := m.tri(t); !equal(x, want) {
			t.Errorf("%v, not %v", x, want)
		}
		lost, e := Done(x)
		reached, f := tint.Reach(x.Arena, from)
		for _, at := range reached {
			if slices.Contains(lost, at) {
				t.Errorf("%v, from %v: %d is lost", x, from, at)
			}
		}
		if e != api.OK || f != api.OK {
			t.Errorf("%v: errors %d, %d", x, e, f)
		}
	}
}

// Without changes exactly the reachable objects are black in the end.
func TestAllStepsP111(t *testing.T) {
	pick := picker()
	for range 60 {
		m := largeModel(pick)
		a := m.tri(t).Arena
		var from []int
		if i := m.pickObject(pick); i >= 0 {
			from = append(from, m.at(i))
		}
		x, e := Start(a, from)
		steps := 0
		for more := e == api.OK; more; steps++ {
			x, more, e = Step(x)
		}
		reached, f := tint.Reach(a, from)
		if !slices.Equal(x.Black, reached) || len(x.Grey) != 0 || steps != len(reached)+1 || e != api.OK || f != api.OK {
			t.Errorf("%v, from %v: %v, %d steps, errors %d, %d", a, from, x, steps, e, f)
		}
	}
}

// In a full arena each word is an object, or one object takes all words.
func TestFullArenaP111(t *testing.T) {
	a := make([]uint64, 256)
	x := api.Tri{Arena: a}
	for at := range a {
		x.Grey = append(x.Grey, at)
	}
	y, more, e := Step(x)
	if !slices.Equal(y.Grey, x.Grey[1:]) || !slices.Equal(y.Black, []int{0}) || !more || e != api.OK {
		t.Errorf("%v, %v, error %d", y, more, e)
	}
	if l, e := Done(api.Tri{Arena: a, Black: x.Grey}); len(l) != 0 || e != api.OK {
		t.Error(l, e)
	}
	if l, e := Done(api.Tri{Arena: a}); !slices.Equal(l, x.Grey) || e != api.OK {
		t.Error(l, e)
	}
	great := modelOf([]api.Object{{Refs: slices.Repeat([]int{0}, 255)}}).with("b")
	checkWrite(t, great, 0, 254, -1)
	checkWrite(t, great, 0, 0, 0)
	checkStep(t, great.with("g"))
}
