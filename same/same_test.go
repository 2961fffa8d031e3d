package same

import (
	"math"
	"slices"
	"testing"

	"cairnfield/api"
	"cairnfield/carry"
	"cairnfield/slide"
	"cairnfield/walk"
)

const (
	free   = 1 << 48
	tagged = 5 << 32
	body   = 1 << 16
)

// pieces are the words of single objects. Some of their references are valid
// only behind or before certain others, some of their data words look like
// references, and some of them differ in one way only.
func pieces() [][]uint64 {
	return [][]uint64{
		{0}, {tagged}, {body, 3}, {body, 1}, {1, 0}, {1, 1}, {1, 3}, {2, 1, 3}, {2 + body, 3, 1, 1}, {2, 5, 5}, {free}, {free + body, 1},
	}
}

// eachHeap calls check with all valid arenas of up to a number of the pieces.
func eachHeap(most int, check func(a []uint64)) {
	level := [][]uint64{nil}
	for range most + 1 {
		var next [][]uint64
		for _, a := range level {
			if walk.Check(a) == api.OK {
				check(a)
			}
			for _, p := range pieces() {
				next = append(next, slices.Concat(a, p))
			}
		}
		level = next
	}
}

// eachCall calls check with these arenas and all lists of up to two of their
// objects, and with the list of all of them.
func eachCall(most int, check func(a []uint64, from []int)) {
	eachHeap(most, func(a []uint64) {
		all := starts(a)
		for _, from := range lists(all) {
			check(a, from)
		}
		if len(all) > 2 {
			check(a, all)
		}
	})
}

// lists returns all lists of up to two of some elements, in any order and with
// repetitions.
func lists[T any](elements []T) [][]T {
	all := [][]T{nil}
	for _, v := range elements {
		all = append(all, []T{v})
		for _, w := range elements {
			all = append(all, []T{v, w})
		}
	}
	return all
}

// starts returns the words of the objects that are not free.
func starts(a []uint64) []int {
	var l []int
	spots, _ := walk.Spots(a)
	for _, s := range spots {
		if !s.Head.Free {
			l = append(l, s.At)
		}
	}
	return l
}

// inner returns the tag, the reference words and the data words of the object
// at word at.
func inner(a []uint64, at int) (int, []uint64, []uint64) {
	refs, data, tag := int(a[at]&0xffff), int(a[at]>>16&0xffff), int(a[at]>>32)
	return tag, a[at+1:][:refs], a[at+1+refs:][:data]
}

// formOf follows P180.
func formOf(a []uint64, from []int) api.Form {
	var order []int
	place := func(at int) int {
		if !slices.Contains(order, at) {
			order = append(order, at)
		}
		return slices.Index(order, at)
	}
	var f api.Form
	for _, at := range from {
		f.From = append(f.From, place(at))
	}
	for i := 0; i < len(order); i++ {
		tag, refs, data := inner(a, order[i])
		o := api.Object{Tag: tag, Body: data}
		for _, ref := range refs {
			if ref == 0 {
				o.Refs = append(o.Refs, -1)
			} else {
				o.Refs = append(o.Refs, place(int(ref)-1))
			}
		}
		f.Objects = append(f.Objects, o)
	}
	return f
}

// mapped tells whether some objects of one heap can be put in the places of
// those of another one. It follows the references of both together.
func mapped(a []uint64, from []int, b []uint64, too []int) bool {
	if len(from) != len(too) {
		return false
	}
	there, back := map[int]int{-1: -1}, map[int]int{-1: -1}
	var next [][2]int
	for i, at := range from {
		next = append(next, [2]int{at, too[i]})
	}
	for len(next) > 0 {
		at, other := next[0][0], next[0][1]
		next = next[1:]
		to, ok := there[at]
		of, ok2 := back[other]
		if ok != ok2 || ok && (to != other || of != at) {
			return false
		}
		if ok {
			continue
		}
		there[at], back[other] = other, at
		tag, refs, data := inner(a, at)
		tag2, refs2, data2 := inner(b, other)
		if tag != tag2 || len(refs) != len(refs2) || !slices.Equal(data, data2) {
			return false
		}
		for i := range refs {
			next = append(next, [2]int{int(refs[i]) - 1, int(refs2[i]) - 1})
		}
	}
	return true
}

func equalObjects(o, p api.Object) bool {
	return o.Tag == p.Tag && o.Free == p.Free && slices.Equal(o.Refs, p.Refs) && slices.Equal(o.Body, p.Body)
}

func equalForms(f, g api.Form) bool {
	return slices.EqualFunc(f.Objects, g.Objects, equalObjects) && slices.Equal(f.From, g.From)
}

func checkForm(t *testing.T, a []uint64, from []int, f api.Form, want api.Errno) {
	t.Helper()
	if got, e := Form(a, from); !equalForms(got, f) || e != want {
		t.Errorf("Form(%v, %v): %v, error %d, not %v, error %d", a, from, got, e, f, want)
	}
}

func checkAlike(t *testing.T, a []uint64, from []int, b []uint64, too []int, is bool, want api.Errno) {
	t.Helper()
	if got, e := Alike(a, from, b, too); got != is || e != want {
		t.Errorf("Alike(%v, %v, %v, %v): %v, error %d, not %v, error %d", a, from, b, too, got, e, is, want)
	}
}

func checkBuild(t *testing.T, f api.Form, n int, a []uint64, from []int, want api.Errno) {
	t.Helper()
	b, l, e := Build(f, n)
	if !slices.Equal(b, a) || !slices.Equal(l, from) || e != want {
		t.Errorf("Build(%v, %d): %v, %v, error %d, not %v, %v, error %d", f, n, b, l, e, a, from, want)
	}
}

// checkErrors expects an error of Form, and of Alike, whatever the other heap
// is and whether it is the second one or comes after one that is valid.
func checkErrors(t *testing.T, a []uint64, from []int, want api.Errno) {
	t.Helper()
	checkForm(t, a, from, api.Form{}, want)
	checkAlike(t, a, from, a, from, false, want)
	for _, b := range [][]uint64{nil, {0}, {1, 1}, {1}, {1, 9}, make([]uint64, 257)} {
		for _, too := range [][]int{nil, {0}, {1}, {-1}} {
			checkAlike(t, a, from, b, too, false, want)
		}
	}
	checkAlike(t, nil, nil, a, from, false, want)
	checkAlike(t, []uint64{0, 1, 2}, []int{1, 1, 0}, a, from, false, want)
}

func TestAllFormsP180(t *testing.T) {
	done, more := 0, 0
	eachCall(3, func(a []uint64, from []int) {
		f := formOf(a, from)
		checkForm(t, a, from, f, api.OK)
		checkAlike(t, a, from, a, from, true, api.OK)
		done++
		if len(f.Objects) > len(from) {
			more++
		}
	})
	if done < 2000 || more < 200 {
		t.Errorf("only %d calls, %d with objects to which others refer", done, more)
	}
}

func TestFormExamplesP180(t *testing.T) {
	// The object at word 1 refers to that at word 5, to null and to that at word
	// 7, which refers to itself and to that at word 1.
	a := []uint64{free, 3, 6, 0, 8, tagged + body, 8, 2 + body, 8, 2, 1, free + body, 0, 0}
	first := api.Object{Refs: []int{1, -1, 2}}
	second := api.Object{Tag: 5, Body: []uint64{8}}
	third := api.Object{Refs: []int{2, 0}, Body: []uint64{1}}
	for _, c := range []struct {
		from []int
		want api.Form
	}{
		{nil, api.Form{}},
		{[]int{13}, api.Form{Objects: []api.Object{{}}, From: []int{0}}},
		{[]int{13, 13, 13}, api.Form{Objects: []api.Object{{}}, From: []int{0, 0, 0}}},
		{[]int{5}, api.Form{Objects: []api.Object{second}, From: []int{0}}},
		{[]int{5, 13, 5}, api.Form{Objects: []api.Object{second, {}}, From: []int{0, 1, 0}}},
		{[]int{1}, api.Form{Objects: []api.Object{first, second, third}, From: []int{0}}},
		// What from names has its index from there.
		{[]int{1, 7}, api.Form{Objects: []api.Object{{Refs: []int{2, -1, 1}}, {Refs: []int{1, 0}, Body: []uint64{1}}, second}, From: []int{0, 1}}},
		{[]int{5, 1, 1, 5}, api.Form{Objects: []api.Object{second, {Refs: []int{0, -1, 2}}, {Refs: []int{2, 1}, Body: []uint64{1}}}, From: []int{0, 1, 1, 0}}},
		{[]int{7}, api.Form{Objects: []api.Object{{Refs: []int{0, 1}, Body: []uint64{1}}, {Refs: []int{2, -1, 0}}, second}, From: []int{0}}},
	} {
		checkForm(t, a, c.from, c.want, api.OK)
	}
	checkForm(t, []uint64{free, free + body, 1}, nil, api.Form{}, api.OK)
}

// All heaps of up to two pieces are compared with each other.
func TestAllPairsP180(t *testing.T) {
	type call struct {
		a    []uint64
		from []int
	}
	var calls []call
	eachCall(2, func(a []uint64, from []int) {
		calls = append(calls, call{a, from})
	})
	alike := 0
	for i, c := range calls {
		for j, d := range calls {
			is := mapped(c.a, c.from, d.a, d.from)
			// Few are alike, and of the others a part is enough.
			if is || (i+j)%3 == 0 {
				checkAlike(t, c.a, c.from, d.a, d.from, is, api.OK)
			}
			if is && i != j {
				alike++
			}
		}
	}
	if len(calls) < 300 || alike < 1000 {
		t.Errorf("only %d heaps, %d alike", len(calls), alike)
	}
}

func TestAlikeExamplesP180(t *testing.T) {
	// Two objects refer to each other, a third one to the first one.
	a := []uint64{1, 3, 1, 1, tagged + 1 + body, 1, 7}
	for _, c := range []struct {
		from []int
		b    []uint64
		too  []int
		want bool
	}{
		{nil, nil, nil, true},
		{nil, []uint64{0, 0}, nil, true},
		{nil, []uint64{0, 0}, []int{1}, false},
		{[]int{0}, a, []int{0}, true},
		// The first two are alike, but not if the third one is seen.
		{[]int{0}, a, []int{2}, true},
		{[]int{0, 2}, a, []int{2, 0}, true},
		{[]int{0, 4}, a, []int{2, 4}, false},
		{[]int{4}, a, []int{4}, true},
		{[]int{4}, a, []int{0}, false},
		// The same objects in another order, or more than once.
		{[]int{0, 4}, a, []int{4, 0}, false},
		{[]int{0}, a, []int{0, 0}, false},
		{[]int{0, 0}, a, []int{0}, false},
		{[]int{0, 0}, a, []int{0, 2}, false},
		{[]int{0, 0}, a, []int{2, 2}, true},
		// Elsewhere, with free and with other objects around them.
		{[]int{4}, []uint64{free, tagged + 1 + body, 8, 7, free + body, 5, 0, 1, 10, 1, 8}, []int{1}, true},
		// Another tag, another data word, another number of them, a null.
		{[]int{4}, []uint64{1, 3, 1, 1, 2*tagged + 1 + body, 1, 7}, []int{4}, false},
		{[]int{4}, []uint64{1, 3, 1, 1, tagged + 1 + body, 1, 6}, []int{4}, false},
		{[]int{4}, []uint64{1, 3, 1, 1, tagged + 1, 1, free}, []int{4}, false},
		{[]int{4}, []uint64{1, 3, 1, 1, tagged + 1 + 2*body, 1, 7, 0}, []int{4}, false},
		{[]int{4}, []uint64{1, 3, 1, 0, tagged + 1 + body, 1, 7}, []int{4}, false},
		{[]int{4}, []uint64{1, 3, 1, 1, tagged + 1 + body, 0, 7}, []int{4}, false},
		{[]int{4}, []uint64{1, 3, 1, 1, tagged + 2 + body, 1, 0, 7}, []int{4}, false},
		// An object that refers to itself is not one of two.
		{[]int{0}, []uint64{1, 1}, []int{0}, false},
		{[]int{4}, []uint64{1, 1, tagged + 1 + body, 1, 7}, []int{2}, false},
	} {
		checkAlike(t, a, c.from, c.b, c.too, c.want, api.OK)
		checkAlike(t, c.b, c.too, a, c.from, c.want, api.OK)
	}
	// A reference is no data word, whatever both are.
	checkAlike(t, []uint64{1, 1}, []int{0}, []uint64{body, 1}, []int{0}, false, api.OK)
	checkAlike(t, []uint64{1, 0}, []int{0}, []uint64{body, math.MaxUint64}, []int{0}, false, api.OK)
	checkAlike(t, []uint64{body, 0}, []int{0}, []uint64{body, 1 << 63}, []int{0}, false, api.OK)
}

// An arena and a copy of what is reachable in it have the same form, and so has
// an arena that was compacted.
func TestCopiesP180(t *testing.T) {
	eachCall(3, func(a []uint64, from []int) {
		b, order, to, e := carry.Copy(a, from, len(a))
		if e != api.OK {
			t.Fatalf("%v, %v: error %d", a, from, e)
		}
		var too []int
		for _, at := range from {
			too = append(too, to[slices.Index(order, at)])
		}
		checkAlike(t, a, from, b, too, true, api.OK)
		for _, pinned := range [][]int{nil, from[:min(1, len(from))], starts(a)} {
			c, moved, e := slide.Clean(a, from, pinned)
			if e != api.OK {
				t.Fatalf("%v, %v, %v: error %d", a, from, pinned, e)
			}
			checkAlike(t, a, from, c, moved, true, api.OK)
			checkAlike(t, c, moved, b, too, true, api.OK)
		}
	})
}

func TestErrorsP180(t *testing.T) {
	// Objects at words 0, 2 and 4, and a free one at word 3.
	a := []uint64{1, 3, 0, free, 0}
	for _, from := range [][]int{{3}, {1}, {5}, {-1}, {4, 0, 3}, {0, 1, 0}} {
		checkErrors(t, a, from, api.ErrNone)
	}
	checkErrors(t, nil, []int{0}, api.ErrNone)
	checkErrors(t, []uint64{1, 2}, nil, api.ErrNone)
	checkErrors(t, []uint64{1, 3, free}, nil, api.ErrNone)
	checkErrors(t, []uint64{1, 3}, nil, api.ErrNone)
	checkErrors(t, []uint64{1}, nil, api.ErrForm)
	checkErrors(t, []uint64{free << 1}, nil, api.ErrForm)
	checkErrors(t, []uint64{free + 1, 1}, nil, api.ErrForm)
	checkErrors(t, make([]uint64, 257), nil, api.ErrLarge)
	// Each of these has the errors that follow, too.
	checkErrors(t, append([]uint64{1, 2}, append(make([]uint64, 254), 1)...), []int{256}, api.ErrLarge)
	checkErrors(t, []uint64{1, 9, 1}, []int{3}, api.ErrForm)
	checkErrors(t, []uint64{1, 9}, []int{3}, api.ErrNone)
}

// wide are numbers that are no words of a small arena. Some of them would be if
// their upper bits were lost.
func wide() []int {
	return []int{math.MinInt, math.MinInt + 1, -1 << 32, 1 - 1<<32, -2, 255, 256, 257, 1 << 16, 1 << 32, 1<<32 + 1, math.MaxInt - 1, math.MaxInt}
}

// Numbers that are equal to a word only after a conversion are no words.
func TestWideNumbersP180(t *testing.T) {
	for _, at := range append(wide(), -1, 2, 3) {
		checkErrors(t, []uint64{0, 0}, []int{at}, api.ErrNone)
		checkErrors(t, []uint64{0, 0}, []int{1, 0, at}, api.ErrNone)
	}
	// Words that are references only after a conversion are no references.
	for _, ref := range []uint64{1 << 32, 1<<32 + 1, 1 << 63, 1<<63 + 1, math.MaxUint64} {
		checkErrors(t, []uint64{1, ref}, []int{0}, api.ErrNone)
		f := api.Form{Objects: []api.Object{{Tag: 65535, Body: []uint64{ref}}}, From: []int{0}}
		checkForm(t, []uint64{65535<<32 + body, ref}, []int{0}, f, api.OK)
		checkBuild(t, f, 2, []uint64{65535<<32 + body, ref}, []int{0}, api.OK)
	}
}

// errorOf follows the list of errors of P181.
func errorOf(f api.Form, n int) api.Errno {
	if _, e := walk.Lay(f.Objects, n); e != api.OK {
		return e
	}
	for _, i := range f.From {
		if i < 0 || i >= len(f.Objects) || f.Objects[i].Free {
			return api.ErrNone
		}
	}
	return api.OK
}

// checkAnyBuild expects what P181 says for any form.
func checkAnyBuild(t *testing.T, f api.Form, n int) {
	t.Helper()
	if e := errorOf(f, n); e != api.OK {
		checkBuild(t, f, n, nil, nil, e)
		return
	}
	a, _ := walk.Lay(f.Objects, n)
	ends := []int{0}
	for i, o := range f.Objects {
		ends = append(ends, ends[i]+1+len(o.Refs)+len(o.Body))
	}
	var from []int
	for _, i := range f.From {
		from = append(from, ends[i])
	}
	checkBuild(t, f, n, a, from, api.OK)
}

// eachForm calls check with all forms of up to three of some descriptions, free
// ones and ones with invalid references too, with From as given.
func eachForm(from [][]int, check func(f api.Form)) {
	descriptions := []api.Object{{}, {Tag: 5, Body: []uint64{2, 9}}, {Refs: []int{0}}, {Refs: []int{1, -1}, Body: []uint64{1}}, {Refs: []int{2}}, {Free: true}, {Free: true, Body: []uint64{7}}}
	level := [][]api.Object{nil}
	for range 4 {
		var next [][]api.Object
		for _, l := range level {
			for _, too := range from {
				check(api.Form{Objects: l, From: too})
			}
			for _, o := range descriptions {
				next = append(next, append(slices.Clone(l), o))
			}
		}
		level = next
	}
}

func TestAllFormsP181(t *testing.T) {
	built, refused := 0, 0
	eachForm(lists([]int{-1, 0, 1, 2, 3}), func(f api.Form) {
		for _, n := range []int{0, 3, 5, 8, 12, 256} {
			checkAnyBuild(t, f, n)
		}
		if errorOf(f, 256) == api.OK {
			built++
		} else if _, e := walk.Lay(f.Objects, 256); e == api.OK {
			refused++
		}
	})
	if built < 500 || refused < 500 {
		t.Errorf("only %d forms, %d that are wrong in From", built, refused)
	}
}

func TestBuildExamplesP181(t *testing.T) {
	f := api.Form{
		Objects: []api.Object{{Tag: 5, Refs: []int{3, -1}}, {Free: true, Body: []uint64{8}}, {Body: []uint64{9}}, {Refs: []int{0}}},
		From:    []int{2, 0, 3, 2},
	}
	a := []uint64{tagged + 2, 8, 0, free + body, 8, body, 9, 1, 1}
	from := []int{5, 0, 7, 5}
	checkBuild(t, f, 9, a, from, api.OK)
	checkBuild(t, f, 10, append(slices.Clone(a), free), from, api.OK)
	checkBuild(t, f, 12, append(slices.Clone(a), free+2*body, 0, 0), from, api.OK)
	checkBuild(t, f, 8, nil, nil, api.ErrFull)
	checkBuild(t, api.Form{}, 0, nil, nil, api.OK)
	checkBuild(t, api.Form{}, 2, []uint64{free + body, 0}, nil, api.OK)
	checkBuild(t, api.Form{Objects: f.Objects}, 9, a, nil, api.OK)
	// Objects need not be reachable.
	checkBuild(t, api.Form{Objects: []api.Object{{}, {}}, From: []int{1}}, 2, []uint64{0, 0}, []int{1}, api.OK)
}

// A form is that of the arena that is built of it, if it is one of what is
// reached, and the arena is as copied.
func TestThereAndBackP180P181(t *testing.T) {
	eachCall(3, func(a []uint64, from []int) {
		f, _ := Form(a, from)
		for _, n := range []int{len(a), len(a) + 1, 256} {
			b, too, e := Build(f, n)
			c, _, _, _ := carry.Copy(a, from, n)
			if e != api.OK || !slices.Equal(b, c) {
				t.Errorf("%v, %v: %v, error %d, not %v", a, from, b, e, c)
			}
			checkForm(t, b, too, f, api.OK)
			checkAlike(t, a, from, b, too, true, api.OK)
		}
	})
}

func TestErrorsP181(t *testing.T) {
	// The objects take three words.
	l := []api.Object{{}, {Free: true}, {}}
	for _, i := range append(wide(), -1, 1, 3, 4) {
		for _, from := range [][]int{{i}, {0, 2, i}, {i, 2}} {
			for _, n := range []int{3, 4, 256} {
				checkBuild(t, api.Form{Objects: l, From: from}, n, nil, nil, api.ErrNone)
			}
			// Each of these has the errors that follow, too.
			f := api.Form{Objects: slices.Concat(l, []api.Object{{Refs: []int{1}}}), From: from}
			checkBuild(t, f, 5, nil, nil, api.ErrNone)
			checkBuild(t, f, 4, nil, nil, api.ErrFull)
			f.Objects = append(f.Objects, api.Object{Body: make([]uint64, 256)})
			checkBuild(t, f, 5, nil, nil, api.ErrLarge)
			f.Objects = append(slices.Clone(l), api.Object{Free: true, Refs: make([]int, 256)})
			checkBuild(t, f, 5, nil, nil, api.ErrForm)
			f.Objects = append(slices.Clone(l), api.Object{Free: true, Refs: make([]int, 257)}, api.Object{Free: true, Tag: 1})
			checkBuild(t, f, 5, nil, nil, api.ErrRange)
			for _, n := range []int{-1, 257, math.MaxInt, math.MinInt, -1 << 32, 1 << 32} {
				f.Objects = []api.Object{{Body: make([]uint64, 256)}}
				checkBuild(t, f, n, nil, nil, api.ErrRange)
			}
		}
	}
	for _, tag := range []int{-1, 65536, math.MaxInt, math.MinInt} {
		checkBuild(t, api.Form{Objects: []api.Object{{Tag: tag}}, From: []int{0}}, 1, nil, nil, api.ErrRange)
	}
	for _, ref := range append(wide(), 1, 2) {
		checkBuild(t, api.Form{Objects: []api.Object{{Refs: []int{ref}}, {Free: true}}, From: []int{0}}, 4, nil, nil, api.ErrNone)
	}
	// Without objects no element of From is right.
	checkBuild(t, api.Form{From: []int{0}}, 0, nil, nil, api.ErrNone)
	checkBuild(t, api.Form{From: []int{-1}}, 256, nil, nil, api.ErrNone)
}

// In a full arena each word is an object, or one object has all words.
func TestFullArenaP180P181(t *testing.T) {
	a := make([]uint64, 256)
	all := make([]int, 256)
	back := make([]int, 256)
	for at := range 256 {
		all[at], back[at] = at, 255-at
	}
	f := api.Form{Objects: make([]api.Object, 256), From: all}
	checkForm(t, a, all, f, api.OK)
	checkForm(t, a, back, f, api.OK)
	checkAlike(t, a, all, a, back, true, api.OK)
	checkBuild(t, f, 256, a, all, api.OK)
	checkBuild(t, f, 255, nil, nil, api.ErrFull)
	f.From = back
	checkBuild(t, f, 256, a, back, api.OK)
	f.Objects = append(f.Objects, api.Object{})
	checkBuild(t, f, 256, nil, nil, api.ErrFull)
	a[0], a[1] = 1, 256
	f = api.Form{Objects: []api.Object{{Refs: []int{1}}, {}}, From: []int{0}}
	checkForm(t, a, []int{0}, f, api.OK)
	checkForm(t, a, []int{255, 254, 0}, api.Form{Objects: []api.Object{{}, {}, {Refs: []int{0}}}, From: []int{0, 1, 2}}, api.OK)
	checkAlike(t, a, []int{0}, []uint64{0, 1, 1}, []int{1}, true, api.OK)
	checkAlike(t, a, all[2:], make([]uint64, 254), all[:254], true, api.OK)
	checkAlike(t, a, slices.Delete(slices.Clone(all), 1, 2), a, slices.Delete(slices.Clone(back), 254, 255), false, api.OK)
	long := make([]uint64, 256)
	long[0], long[255] = 255*body, 4
	f = api.Form{Objects: []api.Object{{Body: long[1:]}}, From: []int{0}}
	checkForm(t, long, []int{0}, f, api.OK)
	checkBuild(t, f, 256, long, []int{0}, api.OK)
	for i := range long {
		long[i] = 1
	}
	long[0] = 255
	f = api.Form{Objects: []api.Object{{Refs: make([]int, 255)}}, From: []int{0}}
	checkForm(t, long, []int{0}, f, api.OK)
	checkBuild(t, f, 256, long, []int{0}, api.OK)
}

// Each object of a chain refers to the one before it, the first one to the last
// one: the form is that of a chain in which each refers to the one behind it.
func TestChainP180P181(t *testing.T) {
	const n = 128
	var a, b []uint64
	f := api.Form{From: []int{0}}
	for i := range n {
		a = append(a, 1, uint64((i+n-1)%n*2+1))
		b = append(b, 1, uint64((i+1)%n*2+1))
		f.Objects = append(f.Objects, api.Object{Refs: []int{(i + 1) % n}})
	}
	for i := range n {
		checkForm(t, a, []int{2 * i}, f, api.OK)
		checkForm(t, b, []int{2 * i}, f, api.OK)
		checkAlike(t, a, []int{0}, b, []int{2 * i}, true, api.OK)
		checkAlike(t, a, []int{0, 2}, b, []int{0, 2 * i}, i == n-1, api.OK)
	}
	checkBuild(t, f, 256, b, []int{0}, api.OK)
	// One of the objects is another one.
	b[2*77] += tagged
	checkAlike(t, a, []int{0}, b, []int{0}, false, api.OK)
	a[2*51] += tagged
	checkAlike(t, a, []int{0}, b, []int{0}, true, api.OK)
	checkAlike(t, a, []int{0}, b, []int{2}, false, api.OK)
}
