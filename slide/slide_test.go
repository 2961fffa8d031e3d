package slide

import (
	"math"
	"slices"
	"testing"

	"cairnfield/api"
	"cairnfield/plan"
	"cairnfield/tint"
	"cairnfield/walk"
)

const (
	free   = 1 << 48
	tagged = 5 << 32
	body   = 1 << 16
)

// pieces are the words of single objects. Some of their references are valid
// only behind or before certain others, and some of their data words look like
// references.
func pieces() [][]uint64 {
	return [][]uint64{
		{0}, {tagged + body, 3}, {1, 1}, {2 + body, 3, 0, 1}, {tagged + 1, 4}, {free}, {free + 2*body, 1, 3},
	}
}

// eachHeap calls check with all valid arenas of up to four of the pieces.
func eachHeap(check func(a []uint64)) {
	level := [][]uint64{nil}
	for range 5 {
		var next [][]uint64
		for _, a := range level {
			if walk.Check(a) == api.OK {
				check(a)
			}
			for _, p := range pieces() {
				next = append(next, slices.Concat(a, p))
			}
		}
		level = next
	}
}

// starts returns the words of the objects that are not free.
func starts(a []uint64) []int {
	var l []int
	spots, _ := walk.Spots(a)
	for _, s := range spots {
		if !s.Head.Free {
			l = append(l, s.At)
		}
	}
	return l
}

// subsets returns all sublists of a list.
func subsets(l []int) [][]int {
	all := [][]int{nil}
	for _, v := range l {
		for _, s := range all {
			all = append(all, append(slices.Clone(s), v))
		}
	}
	return all
}

// placed is the description of an object, and where it is put.
type placed struct {
	at int
	o  api.Object
}

// described returns what is expected at each position, with references as
// indices in the list that is returned, or the error of a reference.
func described(a []uint64, keep, to []int, gaps []api.Run) ([]placed, api.Errno) {
	spots, _ := walk.Spots(a)
	objects, _ := walk.Objects(a)
	var l []placed
	for i, s := range spots {
		if k := slices.Index(keep, s.At); k >= 0 {
			l = append(l, placed{to[k], objects[i]})
		}
	}
	for _, r := range gaps {
		l = append(l, placed{r.At, api.Object{Free: true, Body: make([]uint64, r.Long-1)}})
	}
	slices.SortFunc(l, func(p, q placed) int { return p.at - q.at })
	for _, p := range l {
		for i, ref := range p.o.Refs {
			if ref < 0 {
				continue
			}
			k := slices.Index(keep, spots[ref].At)
			if k < 0 {
				return nil, api.ErrHeld
			}
			p.o.Refs[i] = slices.IndexFunc(l, func(q placed) bool { return q.at == to[k] })
		}
	}
	return l, api.OK
}

// slid describes the objects at their new positions and lays them out.
func slid(t *testing.T, a []uint64, keep, pinned []int) ([]uint64, []int, api.Errno) {
	t.Helper()
	to, e := plan.To(a, keep, pinned)
	if e != api.OK {
		return nil, nil, e
	}
	gaps, _ := plan.Gaps(a, keep, pinned)
	l, e := described(a, keep, to, gaps)
	if e != api.OK {
		return nil, nil, e
	}
	var objects []api.Object
	for _, p := range l {
		objects = append(objects, p.o)
	}
	b, e := walk.Lay(objects, len(a))
	if e != api.OK {
		t.Fatalf("%v, %v, %v: nothing is laid out: error %d", a, keep, pinned, e)
	}
	return b, to, api.OK
}

func checkSlide(t *testing.T, a []uint64, keep, pinned []int, b []uint64, to []int, want api.Errno) {
	t.Helper()
	got, at, e := Slide(a, keep, pinned)
	if !slices.Equal(got, b) || !slices.Equal(at, to) || e != want {
		t.Errorf("Slide(%v, %v, %v): %v, %v, error %d, not %v, %v, error %d", a, keep, pinned, got, at, e, b, to, want)
	}
}

func checkClean(t *testing.T, a []uint64, from, pinned []int, b []uint64, now []int, want api.Errno) {
	t.Helper()
	got, at, e := Clean(a, from, pinned)
	if !slices.Equal(got, b) || !slices.Equal(at, now) || e != want {
		t.Errorf("Clean(%v, %v, %v): %v, %v, error %d, not %v, %v, error %d", a, from, pinned, got, at, e, b, now, want)
	}
}

func TestAllHeapsP130(t *testing.T) {
	done, held := 0, 0
	eachHeap(func(a []uint64) {
		for _, keep := range subsets(starts(a)) {
			for _, pinned := range subsets(keep) {
				b, to, e := slid(t, a, keep, pinned)
				checkSlide(t, a, keep, pinned, b, to, e)
				done++
				if e == api.ErrHeld {
					held++
				}
			}
		}
	})
	if held < 1000 || done-held < 10000 {
		t.Errorf("only %d arenas, of which %d have an error", done, held)
	}
}

// Where all is kept already, nothing is left to do.
func TestTwiceIsOnceP130(t *testing.T) {
	eachHeap(func(a []uint64) {
		all := starts(a)
		for _, pinned := range subsets(all) {
			b, to, e := Slide(a, all, pinned)
			if e != api.OK {
				t.Fatalf("%v, %v: error %d", a, pinned, e)
			}
			var same []int
			for i, at := range all {
				if slices.Contains(pinned, at) {
					same = append(same, to[i])
				}
			}
			if !slices.Equal(same, pinned) {
				t.Errorf("%v, %v: pinned objects are at %v", a, pinned, same)
			}
			checkSlide(t, b, to, pinned, b, to, api.OK)
		}
	})
}

func TestEdgesP130(t *testing.T) {
	checkSlide(t, nil, nil, nil, nil, nil, api.OK)
	checkSlide(t, []uint64{0}, nil, nil, []uint64{free}, nil, api.OK)
	checkSlide(t, []uint64{0}, []int{0}, nil, []uint64{0}, []int{0}, api.OK)
	// The data words of a free object become 0, also if it was there before.
	checkSlide(t, []uint64{free + body, 9}, nil, nil, []uint64{free + body, 0}, nil, api.OK)
	// Two free objects become one.
	checkSlide(t, []uint64{0, free, free + body, 9}, []int{0}, nil, []uint64{0, free + 2*body, 0, 0}, []int{0}, api.OK)
	// An object moves by less than it takes.
	checkSlide(t, []uint64{free, tagged + 1 + 2*body, 2, 8, 9}, []int{1}, nil,
		[]uint64{tagged + 1 + 2*body, 1, 8, 9, free}, []int{0}, api.OK)
	// References lead forwards, backwards, to the object itself and to none.
	checkSlide(t, []uint64{free, 3, 6, 0, 2, 2, 2, 6}, []int{1, 5}, []int{5},
		[]uint64{3, 6, 0, 1, free, 2, 1, 6}, []int{0, 5}, api.OK)
	// A data word stays as it is, although a reference would change.
	checkSlide(t, []uint64{free, 1 + body, 2, 2}, []int{1}, nil, []uint64{1 + body, 1, 2, free}, []int{0}, api.OK)
	// What is not kept may refer to whatever there is.
	checkSlide(t, []uint64{1, 3, 1, 1, 0}, []int{4}, nil, []uint64{0, free + 3*body, 0, 0, 0}, []int{0}, api.OK)
}

// In a full arena each word is an object, or one object takes all words.
func TestFullArenaP130(t *testing.T) {
	a := make([]uint64, 256)
	b := make([]uint64, 256)
	var odd, half []int
	for at := 1; at < 256; at += 2 {
		odd = append(odd, at)
		half = append(half, at/2)
		b[at-1] = free
	}
	checkSlide(t, a, odd, odd, b, odd, api.OK)
	b = make([]uint64, 256)
	b[128] = free + 127*body
	checkSlide(t, a, odd, nil, b, half, api.OK)
	b = make([]uint64, 256)
	b[0] = free + 255*body
	checkSlide(t, a, nil, nil, b, nil, api.OK)
	a[0] = 255
	for at := 1; at < 256; at++ {
		a[at] = 1
	}
	checkSlide(t, a, []int{0}, nil, a, []int{0}, api.OK)
	checkSlide(t, a, nil, nil, b, nil, api.OK)
}

func TestErrorsP130(t *testing.T) {
	// Objects at words 0, 2 and 6; the first one refers to the second one, which
	// refers to the last one.
	a := []uint64{1, 3, 2, 0, 7, free, 0}
	for _, c := range []struct {
		a            []uint64
		keep, pinned []int
		want         api.Errno
	}{
		{a, []int{0}, nil, api.ErrHeld},
		{a, []int{2}, []int{2}, api.ErrHeld},
		{a, []int{0, 2}, nil, api.ErrHeld},
		{a, []int{0, 6}, []int{0, 6}, api.ErrHeld},
		{a, []int{6, 2}, nil, api.ErrForm},
		{a, []int{2, 2}, nil, api.ErrForm},
		{a, []int{2, 6}, []int{6, 2}, api.ErrForm},
		{a, []int{5}, nil, api.ErrNone},
		{a, []int{1}, nil, api.ErrNone},
		{a, []int{7}, nil, api.ErrNone},
		{a, []int{-1}, nil, api.ErrNone},
		{a, []int{2, 6}, []int{0}, api.ErrNone},
		{[]uint64{1, 2}, nil, nil, api.ErrNone},
		{[]uint64{1}, nil, nil, api.ErrForm},
		{[]uint64{free << 1}, nil, nil, api.ErrForm},
		{make([]uint64, 257), nil, nil, api.ErrLarge},
		// Each of these has the errors that follow, too.
		{append(make([]uint64, 255), 1, 1), []int{255, 1}, []int{3}, api.ErrLarge},
		{append(slices.Clone(a), 1), []int{2, 0}, []int{3}, api.ErrForm},
		{append(slices.Clone(a), 1, 8, 1, 6), []int{2, 0}, []int{3}, api.ErrNone},
		{a, []int{2, 0, 1}, []int{3}, api.ErrForm},
		{a, []int{0, 1}, nil, api.ErrNone},
		{a, []int{0, 2}, []int{6}, api.ErrNone},
	} {
		checkSlide(t, c.a, c.keep, c.pinned, nil, nil, c.want)
	}
}

// Numbers that are equal to a word only after a conversion are no words.
func TestWideNumbersP130P131(t *testing.T) {
	for _, at := range []int{math.MinInt, math.MinInt + 1, -1 << 32, -1, 2, 256, 257, 1 << 32, 1<<32 + 1, math.MaxInt} {
		keep := []int{0, 1, at}
		slices.Sort(keep)
		checkSlide(t, []uint64{0, 0}, keep, nil, nil, nil, api.ErrNone)
		checkSlide(t, []uint64{0, 0}, []int{0, 1}, []int{at}, nil, nil, api.ErrNone)
		checkClean(t, []uint64{0, 0}, []int{at}, nil, nil, nil, api.ErrNone)
		checkClean(t, []uint64{0, 0}, nil, []int{at}, nil, nil, api.ErrNone)
	}
	// Words that are references only after a conversion are no references.
	for _, ref := range []uint64{1 << 32, 1<<32 + 1, 1 << 63, 1<<63 + 1, math.MaxUint64} {
		checkSlide(t, []uint64{1, ref}, []int{0}, nil, nil, nil, api.ErrNone)
		// Data words are any words.
		checkSlide(t, []uint64{free, body, ref}, []int{1}, nil, []uint64{body, ref, free}, []int{0}, api.OK)
	}
}

// reachable follows references until nothing is added.
func reachable(a []uint64, from ...int) []int {
	spots, _ := walk.Spots(a)
	objects, _ := walk.Objects(a)
	kept := map[int]bool{}
	for _, at := range from {
		kept[at] = true
	}
	for range objects {
		for i, o := range objects {
			for _, ref := range o.Refs {
				if kept[spots[i].At] && ref >= 0 {
					kept[spots[ref].At] = true
				}
			}
		}
	}
	var l []int
	for _, s := range spots {
		if kept[s.At] {
			l = append(l, s.At)
		}
	}
	return l
}

// checkCleaned cleans an arena in which only reachable objects are kept.
func checkCleaned(t *testing.T, a []uint64, from, pinned []int) {
	t.Helper()
	keep := reachable(a, slices.Concat(from, pinned)...)
	b, to, e := slid(t, a, keep, pinned)
	if e != api.OK {
		t.Fatalf("%v, %v, %v: error %d", a, from, pinned, e)
	}
	var now []int
	for _, at := range from {
		now = append(now, to[slices.Index(keep, at)])
	}
	checkClean(t, a, from, pinned, b, now, api.OK)
	// The second time nothing is there that is not reachable.
	checkClean(t, b, now, pinned, b, now, api.OK)
	if len(pinned) == 0 {
		checkTight(t, b)
	}
}

// checkTight expects at most one free object, at the end.
func checkTight(t *testing.T, a []uint64) {
	t.Helper()
	spots, _ := walk.Spots(a)
	for i, s := range spots {
		if s.Head.Free && i+1 < len(spots) {
			t.Errorf("%v: there is a free object before the end", a)
		}
	}
}

func TestAllHeapsP131(t *testing.T) {
	done := 0
	eachHeap(func(a []uint64) {
		all := starts(a)
		for _, pinned := range subsets(all) {
			for _, from := range subsets(all) {
				checkCleaned(t, a, from, pinned)
				done++
			}
		}
	})
	if done < 10000 {
		t.Errorf("only %d arenas", done)
	}
}

// The list from is in any order, and names an object as often as it likes.
func TestAnyOrderP131(t *testing.T) {
	a := []uint64{free, 1, 8, tagged, 1, 5, free, body, 9}
	b := []uint64{1, 4, tagged, body, 9, free + 3*body, 0, 0, 0}
	checkClean(t, a, []int{7, 3, 7, 1, 3}, nil, b, []int{3, 2, 3, 0, 2}, api.OK)
	checkClean(t, a, []int{3, 1}, nil, b, []int{2, 0}, api.OK)
	b = []uint64{1, 8, tagged, free + 3*body, 0, 0, 0, body, 9}
	checkClean(t, a, []int{3, 3, 1}, []int{7}, b, []int{2, 2, 0}, api.OK)
}

func TestEdgesP131(t *testing.T) {
	checkClean(t, nil, nil, nil, nil, nil, api.OK)
	checkClean(t, []uint64{0, 0}, nil, nil, []uint64{free + body, 0}, nil, api.OK)
	// What only pinned objects refer to is kept, too, but has no element.
	checkClean(t, []uint64{0, 0, 1, 2}, nil, []int{2}, []uint64{0, free, 1, 1}, nil, api.OK)
	// An object may be in both lists.
	checkClean(t, []uint64{0, 0, 0}, []int{2, 1}, []int{1}, []uint64{free, 0, 0}, []int{2, 1}, api.OK)
	// Objects that refer to each other are freed together.
	checkClean(t, []uint64{1, 3, 1, 1, 0}, []int{4}, nil, []uint64{0, free + 3*body, 0, 0, 0}, []int{0}, api.OK)
	checkClean(t, []uint64{1, 3, 1, 1, 0}, []int{2}, nil, []uint64{1, 3, 1, 1, free}, []int{2}, api.OK)
	// What is not reachable may be pinned only by being in the list.
	checkClean(t, []uint64{0, 0}, []int{1}, nil, []uint64{0, free}, []int{0}, api.OK)
	checkClean(t, []uint64{0, 0}, []int{1}, []int{1}, []uint64{free, 0}, []int{1}, api.OK)
	checkClean(t, []uint64{0, 0}, []int{1}, []int{0}, []uint64{0, 0}, []int{1}, api.OK)
}

// In a full arena, a chain of objects leads from the last one to the first one.
func TestFullArenaP131(t *testing.T) {
	var a []uint64
	for at := 0; at < 256; at += 2 {
		a = append(a, 1, uint64(max(0, at-1)))
	}
	checkClean(t, a, []int{254}, nil, a, []int{254}, api.OK)
	checkClean(t, a, nil, []int{254}, a, nil, api.OK)
	b := slices.Concat(a[:128], []uint64{free + 127*body}, make([]uint64, 127))
	checkClean(t, a, []int{126}, nil, b, []int{126}, api.OK)
	checkClean(t, make([]uint64, 256), []int{255}, nil, append([]uint64{0, free + 254*body}, make([]uint64, 254)...), []int{0}, api.OK)
}

// errorOf follows the list of errors of P131.
func errorOf(a []uint64, from, pinned []int) api.Errno {
	if _, e := tint.Reach(a, slices.Concat(from, pinned)); e != api.OK {
		return e
	}
	for i := range pinned {
		if i > 0 && pinned[i-1] >= pinned[i] {
			return api.ErrForm
		}
	}
	return api.OK
}

// checkError expects nothing else together with an error.
func checkError(t *testing.T, a []uint64, from, pinned []int, want api.Errno) {
	t.Helper()
	b, now, e := Clean(a, from, pinned)
	if e != want || want != api.OK && len(b)+len(now) > 0 {
		t.Errorf("Clean(%v, %v, %v): %v, %v, error %d, not %d", a, from, pinned, b, now, e, want)
	}
}

func TestErrorsP131(t *testing.T) {
	// Objects at words 0, 2 and 4, and a free one at word 3.
	a := []uint64{1, 3, 0, free, 0}
	for _, c := range []struct {
		a            []uint64
		from, pinned []int
		want         api.Errno
	}{
		{a, []int{4, 0}, []int{2, 4}, api.OK},
		{a, []int{3}, nil, api.ErrNone},
		{a, []int{0, 1}, nil, api.ErrNone},
		{a, []int{5}, nil, api.ErrNone},
		{a, []int{-1}, nil, api.ErrNone},
		{a, nil, []int{3}, api.ErrNone},
		{a, nil, []int{0, 1}, api.ErrNone},
		{a, nil, []int{5}, api.ErrNone},
		{a, nil, []int{-1}, api.ErrNone},
		{a, nil, []int{2, 0}, api.ErrForm},
		{a, nil, []int{2, 2}, api.ErrForm},
		{a, []int{0, 2, 4}, []int{0, 4, 2}, api.ErrForm},
		{[]uint64{1, 2}, nil, nil, api.ErrNone},
		{[]uint64{1}, nil, nil, api.ErrForm},
		{[]uint64{free << 1}, nil, nil, api.ErrForm},
		{make([]uint64, 257), nil, nil, api.ErrLarge},
		// Each of these has the errors that follow, too.
		{append(make([]uint64, 256), 1), []int{256}, []int{1, 0}, api.ErrLarge},
		{append(slices.Clone(a), 1), []int{3}, []int{1, 0}, api.ErrForm},
		{append(slices.Clone(a), 1, 9), nil, []int{2, 0}, api.ErrNone},
		{a, []int{3}, []int{2, 0}, api.ErrNone},
		{a, nil, []int{2, 0, 1}, api.ErrNone},
		{a, nil, []int{4, 4, 3}, api.ErrNone},
	} {
		checkError(t, c.a, c.from, c.pinned, c.want)
		checkError(t, c.a, c.from, c.pinned, errorOf(c.a, c.from, c.pinned))
	}
}
