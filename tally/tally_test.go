package tally

import (
	"math"
	"slices"
	"testing"

	"cairnfield/api"
	"cairnfield/tint"
	"cairnfield/walk"
)

const (
	free   = 1 << 48
	tagged = 5 << 32
	body   = 1 << 16
)

// pieces are the words of single objects. Some of their references are valid
// only behind or before certain others, and some of their data words look like
// references.
func pieces() [][]uint64 {
	return [][]uint64{
		{0}, {tagged + body, 3}, {1, 1}, {1, 3}, {2 + body, 3, 0, 1}, {tagged + 2, 5, 3}, {2, 5, 5}, {free}, {free + body, 1},
	}
}

// eachHeap calls check with all valid arenas of up to four of the pieces.
func eachHeap(check func(a []uint64)) {
	level := [][]uint64{nil}
	for range 5 {
		var next [][]uint64
		for _, a := range level {
			if walk.Check(a) == api.OK {
				check(a)
			}
			for _, p := range pieces() {
				next = append(next, slices.Concat(a, p))
			}
		}
		level = next
	}
}

// eachCall calls check with these arenas and all lists of up to two of their
// objects, in any order and with repetitions.
func eachCall(check func(a []uint64, from []int)) {
	eachHeap(func(a []uint64) {
		all := starts(a)
		check(a, nil)
		for _, v := range all {
			check(a, []int{v})
			for _, w := range all {
				check(a, []int{v, w})
			}
		}
	})
}

// starts returns the words of the objects that are not free.
func starts(a []uint64) []int {
	var l []int
	spots, _ := walk.Spots(a)
	for _, s := range spots {
		if !s.Head.Free {
			l = append(l, s.At)
		}
	}
	return l
}

// refsOf returns the words of the objects to which the object at word at
// refers.
func refsOf(a []uint64, at int) []int {
	var l []int
	refs := int(a[at] & 0xffff)
	for _, ref := range a[at+1:][:refs] {
		if ref != 0 {
			l = append(l, int(ref)-1)
		}
	}
	return l
}

// occurrences returns how often a number is in a list.
func occurrences(l []int, v int) int {
	n := 0
	for _, w := range l {
		if v == w {
			n++
		}
	}
	return n
}

// countOf returns the count of the object at word at, if the references of some
// other objects are not counted.
func countOf(a []uint64, from []int, at int, without []int) int {
	n := occurrences(from, at)
	for _, other := range starts(a) {
		if !slices.Contains(without, other) {
			n += occurrences(refsOf(a, other), at)
		}
	}
	return n
}

func countsOf(a []uint64, from []int) []int {
	var l []int
	for _, at := range starts(a) {
		l = append(l, countOf(a, from, at, nil))
	}
	return l
}

// removed returns from without the element with index k.
func removed(from []int, k int) []int {
	return slices.Delete(slices.Clone(from), k, k+1)
}

// freedBy computes all counts again until no further object is freed.
func freedBy(a []uint64, from []int, k int) []int {
	rest := removed(from, k)
	var freed []int
	for {
		var next []int
		for _, at := range starts(a) {
			if countOf(a, rest, at, freed) == 0 {
				next = append(next, at)
			}
		}
		if slices.Equal(freed, next) {
			return freed
		}
		freed = next
	}
}

// reachable asks for each object whether it is, until no further one is.
func reachable(a []uint64, from []int) []int {
	var l []int
	for {
		named := slices.Clone(from)
		for _, at := range l {
			named = append(named, refsOf(a, at)...)
		}
		var next []int
		for _, at := range starts(a) {
			if slices.Contains(named, at) {
				next = append(next, at)
			}
		}
		if slices.Equal(l, next) {
			return l
		}
		l = next
	}
}

func ringsOf(a []uint64, from []int) []int {
	reached := reachable(a, from)
	var l []int
	for _, at := range starts(a) {
		if !slices.Contains(reached, at) && countOf(a, from, at, nil) > 0 {
			l = append(l, at)
		}
	}
	return l
}

func checkCounts(t *testing.T, a []uint64, from, l []int, want api.Errno) {
	t.Helper()
	if got, e := Counts(a, from); !slices.Equal(got, l) || e != want {
		t.Errorf("Counts(%v, %v): %v, error %d, not %v, error %d", a, from, got, e, l, want)
	}
}

func checkDrop(t *testing.T, a []uint64, from []int, k int, l []int, want api.Errno) {
	t.Helper()
	if got, e := Drop(a, from, k); !slices.Equal(got, l) || e != want {
		t.Errorf("Drop(%v, %v, %d): %v, error %d, not %v, error %d", a, from, k, got, e, l, want)
	}
}

func checkRings(t *testing.T, a []uint64, from, l []int, want api.Errno) {
	t.Helper()
	if got, e := Rings(a, from); !slices.Equal(got, l) || e != want {
		t.Errorf("Rings(%v, %v): %v, error %d, not %v, error %d", a, from, got, e, l, want)
	}
}

// checkErrors expects an error that all functions have.
func checkErrors(t *testing.T, a []uint64, from []int, want api.Errno) {
	t.Helper()
	checkCounts(t, a, from, nil, want)
	checkRings(t, a, from, nil, want)
	for _, k := range []int{math.MinInt, -1, 0, len(from) - 1, len(from), math.MaxInt} {
		checkDrop(t, a, from, k, nil, want)
	}
}

func TestAllHeapsP160(t *testing.T) {
	done, high := 0, 0
	eachCall(func(a []uint64, from []int) {
		l := countsOf(a, from)
		checkCounts(t, a, from, l, api.OK)
		done++
		if len(l) > 0 && slices.Max(l) > 3 {
			high++
		}
	})
	if done < 10000 || high < 100 {
		t.Errorf("only %d lists, %d with counts above 3", done, high)
	}
}

func TestExamplesP160(t *testing.T) {
	// Two references to the object at word 3, which refers to itself.
	a := []uint64{2, 4, 4, 1, 4, free, 0}
	for _, c := range []struct {
		a          []uint64
		from, want []int
	}{
		{nil, nil, nil},
		{[]uint64{free, free + body, 1}, nil, nil},
		// An object without a reference to it has a count, too.
		{[]uint64{0, free, 0}, nil, []int{0, 0}},
		{a, nil, []int{0, 3, 0}},
		{a, []int{0}, []int{1, 3, 0}},
		{a, []int{3, 6, 3, 3}, []int{0, 6, 1}},
		{a, []int{6, 3, 0, 6}, []int{1, 4, 2}},
		// Objects that are not reachable are counted, and their references.
		{[]uint64{1, 5, 1, 5, 0}, []int{2}, []int{0, 1, 2}},
		// Null is no reference to the first object.
		{[]uint64{2, 0, 0, 1, 0}, nil, []int{0, 0}},
		// Data words are no references, and neither are those of a free object.
		{[]uint64{2 * body, 1, 4, 0, free + 2*body, 1, 4}, nil, []int{0, 0}},
		{[]uint64{1 + body, 4, 4, body, 4}, []int{3}, []int{0, 2}},
	} {
		checkCounts(t, c.a, c.from, c.want, api.OK)
	}
}

func TestErrorsP160(t *testing.T) {
	// Objects at words 0, 2 and 4, and a free one at word 3.
	a := []uint64{1, 3, 0, free, 0}
	for _, from := range [][]int{{3}, {1}, {5}, {-1}, {4, 0, 3}, {0, 1, 0}} {
		checkErrors(t, a, from, api.ErrNone)
	}
	checkErrors(t, nil, []int{0}, api.ErrNone)
	checkErrors(t, []uint64{1, 2}, nil, api.ErrNone)
	checkErrors(t, []uint64{1, 3, free}, nil, api.ErrNone)
	checkErrors(t, []uint64{1, 3}, nil, api.ErrNone)
	checkErrors(t, []uint64{1}, nil, api.ErrForm)
	checkErrors(t, []uint64{free << 1}, nil, api.ErrForm)
	checkErrors(t, []uint64{free + 1, 1}, nil, api.ErrForm)
	checkErrors(t, make([]uint64, 257), nil, api.ErrLarge)
	// Each of these has the errors that follow, too.
	checkErrors(t, append([]uint64{1, 2}, append(make([]uint64, 254), 1)...), []int{256}, api.ErrLarge)
	checkErrors(t, []uint64{1, 9, 1}, []int{3}, api.ErrForm)
	checkErrors(t, []uint64{1, 9}, []int{3}, api.ErrNone)
}

// wide are numbers of which those from 0 to 1 may be words.
func wide() []int {
	return []int{math.MinInt, math.MinInt + 1, -1 << 32, -2, -1, 2, 3, 255, 256, 257, 1 << 32, 1<<32 + 1, math.MaxInt - 1, math.MaxInt}
}

// Numbers that are equal to a word only after a conversion are no words.
func TestWideNumbersP160(t *testing.T) {
	for _, at := range wide() {
		checkErrors(t, []uint64{0, 0}, []int{at}, api.ErrNone)
		checkErrors(t, []uint64{0, 0}, []int{1, 0, at}, api.ErrNone)
	}
	// Words that are references only after a conversion are no references.
	for _, ref := range []uint64{1 << 32, 1<<32 + 1, 1 << 63, 1<<63 + 1, math.MaxUint64} {
		checkErrors(t, []uint64{1, ref}, []int{0}, api.ErrNone)
		checkCounts(t, []uint64{body, ref}, []int{0}, []int{1}, api.OK)
	}
}

func TestAllHeapsP161(t *testing.T) {
	freed, kept, rings := 0, 0, 0
	eachCall(func(a []uint64, from []int) {
		l := ringsOf(a, from)
		checkRings(t, a, from, l, api.OK)
		rings += len(l)
		for k := range from {
			l := freedBy(a, from, k)
			checkDrop(t, a, from, k, l, api.OK)
			if slices.Contains(l, from[k]) {
				freed++
			} else {
				kept++
			}
		}
	})
	if freed < 1000 || kept < 1000 || rings < 1000 {
		t.Errorf("only %d objects that are freed, %d that are not, and %d that are returned by Rings", freed, kept, rings)
	}
}

// Counting frees only objects that are not reachable, and what it leaves of
// these is returned by Rings.
func TestDropAndRingsP161(t *testing.T) {
	eachCall(func(a []uint64, from []int) {
		for k := range from {
			rest := removed(from, k)
			freed, _ := Drop(a, from, k)
			rings, _ := Rings(a, rest)
			reached, _ := tint.Reach(a, rest)
			for _, at := range starts(a) {
				live, gone := slices.Contains(reached, at), slices.Contains(freed, at)
				if live && gone || !live && !gone && !slices.Contains(rings, at) {
					t.Errorf("%v, %v, %d: the object at %d is reachable %v, freed %v, rings %v", a, from, k, at, live, gone, rings)
				}
			}
		}
	})
}

func TestDropExamplesP161(t *testing.T) {
	// The objects at words 0 and 2 refer only to each other, the one at word 4
	// refers to the one at word 6, which is free of references.
	a := []uint64{1, 3, 1, 1, 1, 7, 0}
	for _, c := range []struct {
		a    []uint64
		from []int
		k    int
		want []int
	}{
		{[]uint64{0}, []int{0}, 0, []int{0}},
		{[]uint64{0}, []int{0, 0}, 0, nil},
		{[]uint64{0}, []int{0, 0}, 1, nil},
		// An object that refers to itself is not freed.
		{[]uint64{1, 1}, []int{0}, 0, nil},
		{[]uint64{2, 1, 1}, []int{0}, 0, nil},
		// Two that refer to each other are not, either.
		{[]uint64{1, 3, 1, 1}, []int{0}, 0, nil},
		{a, []int{0, 4}, 0, nil},
		{a, []int{0, 4}, 1, []int{4, 6}},
		{a, []int{4, 0, 4}, 0, nil},
		{a, []int{4, 0, 6}, 0, []int{4}},
		{a, []int{4, 0, 6}, 2, nil},
		// Whatever has a count of 0 is freed, without having been named before.
		{a, []int{0}, 0, []int{4, 6}},
		{a, []int{6, 6}, 0, []int{4}},
		{a, []int{6}, 0, []int{4, 6}},
		{[]uint64{0, 0, 0}, []int{1, 1}, 0, []int{0, 2}},
		// An object is freed when the last of two references to it is.
		{[]uint64{2, 4, 4, 0}, []int{0}, 0, []int{0, 3}},
		{[]uint64{1, 5, 1, 5, 0}, []int{0, 2}, 0, []int{0}},
		{[]uint64{1, 5, 1, 5, 0}, []int{0}, 0, []int{0, 2, 4}},
		// The order is that of the words, not of being freed.
		{[]uint64{0, 1, 1, 1, 2, 1, 4}, []int{5}, 0, []int{0, 1, 3, 5}},
		// A freed object refers to a ring, which remains.
		{[]uint64{1, 3, 2, 3, 6, 0}, []int{0}, 0, []int{0}},
		// Free objects are not freed again.
		{[]uint64{free, 0, free + body, 2}, []int{1}, 0, []int{1}},
	} {
		checkDrop(t, c.a, c.from, c.k, c.want, api.OK)
	}
}

func TestRingsExamplesP161(t *testing.T) {
	for _, c := range []struct {
		a          []uint64
		from, want []int
	}{
		{nil, nil, nil},
		{[]uint64{0, 0}, nil, nil},
		{[]uint64{1, 1}, nil, []int{0}},
		{[]uint64{1, 1}, []int{0}, nil},
		// Two objects that refer only to each other.
		{[]uint64{1, 3, 1, 1}, nil, []int{0, 2}},
		{[]uint64{1, 3, 1, 1, 0}, []int{4, 4}, []int{0, 2}},
		{[]uint64{1, 3, 1, 1}, []int{2}, nil},
		// An object to which a ring refers is returned, one that refers to a ring
		// is not.
		{[]uint64{2, 1, 4, 0, 1, 1}, nil, []int{0, 3}},
		{[]uint64{2, 1, 4, 0, 1, 1}, []int{3}, []int{0}},
		// Any reference counts, even that of an object with a count of 0.
		{[]uint64{1, 3, 0}, nil, []int{2}},
		{[]uint64{1, 3, 0}, []int{2}, nil},
		{[]uint64{1, 3, 0}, []int{0}, nil},
		// Free objects are not returned.
		{[]uint64{free + body, 1, 1, 3}, nil, []int{2}},
	} {
		checkRings(t, c.a, c.from, c.want, api.OK)
	}
}

// What only a ring refers to is reachable if the ring is.
func TestReachableRingsP161(t *testing.T) {
	a := []uint64{1, 3, 2, 1, 6, 0, 1, 7}
	checkRings(t, a, nil, []int{0, 2, 5, 6}, api.OK)
	checkRings(t, a, []int{2}, []int{6}, api.OK)
	checkRings(t, a, []int{5}, []int{0, 2, 6}, api.OK)
	checkRings(t, a, []int{6, 0}, nil, api.OK)
}

func TestErrorsP161(t *testing.T) {
	a := []uint64{1, 3, 0, free, 0}
	for _, from := range [][]int{nil, {0}, {4, 4}, {0, 2, 4}} {
		for _, k := range append(wide(), 0, 1) {
			if k < 0 || k >= len(from) {
				checkDrop(t, a, from, k, nil, api.ErrRange)
			} else {
				checkDrop(t, a, from, k, freedBy(a, from, k), api.OK)
			}
		}
	}
	checkDrop(t, nil, nil, 0, nil, api.ErrRange)
	checkDrop(t, a, []int{0, 2, 4}, 3, nil, api.ErrRange)
	// An error of a or of from comes first.
	checkDrop(t, []uint64{1}, []int{0}, 1, nil, api.ErrForm)
	checkDrop(t, a, []int{0, 3}, 2, nil, api.ErrNone)
	// So does one of the element that is removed.
	checkDrop(t, a, []int{0, 3}, 1, nil, api.ErrNone)
	checkDrop(t, a, []int{3}, 0, nil, api.ErrNone)
}

// In a full arena each word is an object, or one object takes all words.
func TestFullArenaP160P161(t *testing.T) {
	a := make([]uint64, 256)
	var all []int
	for at := range 256 {
		all = append(all, at)
	}
	checkCounts(t, a, all, slices.Repeat([]int{1}, 256), api.OK)
	checkCounts(t, a, nil, make([]int, 256), api.OK)
	checkDrop(t, a, all, 255, []int{255}, api.OK)
	checkDrop(t, a, []int{7, 7}, 0, append(slices.Clone(all[:7]), all[8:]...), api.OK)
	checkRings(t, a, all, nil, api.OK)
	// The greatest reference is that to the last word.
	last := slices.Clone(a)
	last[0], last[1] = 1, 256
	checkCounts(t, last, []int{0}, append([]int{1}, append(make([]int, 253), 1)...), api.OK)
	checkRings(t, last, nil, []int{255}, api.OK)
	checkRings(t, last, []int{0}, nil, api.OK)
	a[0] = 255
	for at := 1; at < 256; at++ {
		a[at] = 1
	}
	checkCounts(t, a, []int{0}, []int{256}, api.OK)
	checkDrop(t, a, []int{0}, 0, nil, api.OK)
	checkRings(t, a, nil, []int{0}, api.OK)
	checkRings(t, a, []int{0}, nil, api.OK)
}

// A chain of objects leads from the last one to the first one.
func TestChainP160P161(t *testing.T) {
	var a []uint64
	var all []int
	for at := 0; at < 256; at += 2 {
		a = append(a, 1, uint64(max(0, at-1)))
		all = append(all, at)
	}
	checkCounts(t, a, []int{254}, slices.Repeat([]int{1}, 128), api.OK)
	checkDrop(t, a, []int{254}, 0, all, api.OK)
	checkDrop(t, a, []int{254, 100}, 0, all[51:], api.OK)
	checkRings(t, a, []int{254}, nil, api.OK)
	checkRings(t, a, []int{252}, nil, api.OK)
	// Every object but the last one is named by the next one.
	checkRings(t, a, nil, all[:127], api.OK)
	// The first object closes a ring.
	a[1] = 255
	checkCounts(t, a, []int{254}, append(slices.Repeat([]int{1}, 127), 2), api.OK)
	checkDrop(t, a, []int{254}, 0, nil, api.OK)
	checkRings(t, a, nil, all, api.OK)
	checkRings(t, a, []int{8}, nil, api.OK)
}
