package faint

import (
	"math"
	"slices"
	"testing"

	"cairnfield/api"
	"cairnfield/tint"
	"cairnfield/walk"
)

const (
	free   = 1 << 48
	tagged = 5 << 32
	body   = 1 << 16
)

// pieces are the words of single objects. Some of their references are valid
// only behind or before certain others, and some of their data words look like
// references.
func pieces() [][]uint64 {
	return [][]uint64{
		{0}, {tagged + body, 3}, {1, 1}, {1, 3}, {2 + body, 3, 0, 1}, {2, 5, 5}, {free}, {free + body, 1},
	}
}

// eachHeap calls check with all valid arenas of up to three of the pieces.
func eachHeap(check func(a []uint64)) {
	level := [][]uint64{nil}
	for range 4 {
		var next [][]uint64
		for _, a := range level {
			if walk.Check(a) == api.OK {
				check(a)
			}
			for _, p := range pieces() {
				next = append(next, slices.Concat(a, p))
			}
		}
		level = next
	}
}

// lists returns all lists of up to two of some elements, in any order and with
// repetitions.
func lists[T any](elements []T) [][]T {
	all := [][]T{nil}
	for _, v := range elements {
		all = append(all, []T{v})
		for _, w := range elements {
			all = append(all, []T{v, w})
		}
	}
	return all
}

// pairsOf returns all pairs of some words.
func pairsOf(words []int) []api.Faint {
	var l []api.Faint
	for _, k := range words {
		for _, v := range words {
			l = append(l, pair(k, v))
		}
	}
	return l
}

func pair(key, value int) api.Faint { return api.Faint{Key: key, Value: value} }

// starts returns the words of the objects that are not free.
func starts(a []uint64) []int {
	var l []int
	spots, _ := walk.Spots(a)
	for _, s := range spots {
		if !s.Head.Free {
			l = append(l, s.At)
		}
	}
	return l
}

// refsOf returns the words of the objects to which the object at word at
// refers.
func refsOf(a []uint64, at int) []int {
	var l []int
	refs := int(a[at] & 0xffff)
	for _, ref := range a[at+1:][:refs] {
		if ref != 0 {
			l = append(l, int(ref)-1)
		}
	}
	return l
}

// closed tells whether a set has all that P170 says about it but being the
// smallest one.
func closed(a []uint64, from []int, pairs []api.Faint, set []int) bool {
	needed := slices.Clone(from)
	for _, at := range set {
		needed = append(needed, refsOf(a, at)...)
	}
	for _, p := range pairs {
		if slices.Contains(set, p.Key) {
			needed = append(needed, p.Value)
		}
	}
	return !slices.ContainsFunc(needed, func(at int) bool { return !slices.Contains(set, at) })
}

// subsets returns all sublists of a list.
func subsets(l []int) [][]int {
	all := [][]int{nil}
	for _, at := range l {
		for _, s := range all {
			all = append(all, append(slices.Clone(s), at))
		}
	}
	return all
}

// smallest returns the words that all closed sets contain.
func smallest(a []uint64, from []int, pairs []api.Faint) []int {
	l := starts(a)
	for _, set := range subsets(l) {
		if closed(a, from, pairs, set) {
			l = slices.DeleteFunc(l, func(at int) bool { return !slices.Contains(set, at) })
		}
	}
	return l
}

// clearedTo returns the pairs whose Key is in a set.
func clearedTo(set []int, pairs []api.Faint) []api.Faint {
	var l []api.Faint
	for _, p := range pairs {
		if slices.Contains(set, p.Key) {
			l = append(l, p)
		}
	}
	return l
}

// lastOf follows P171.
func lastOf(a []uint64, from, queue []int) ([]int, []int) {
	reached := smallest(a, from, nil)
	var told []int
	for _, at := range queue {
		if !slices.Contains(reached, at) {
			told = append(told, at)
		}
	}
	return told, smallest(a, slices.Concat(from, told), nil)
}

func checkKeep(t *testing.T, a []uint64, from []int, pairs []api.Faint, l []int, want api.Errno) {
	t.Helper()
	if got, e := Keep(a, from, pairs); !slices.Equal(got, l) || e != want {
		t.Errorf("Keep(%v, %v, %v): %v, error %d, not %v, error %d", a, from, pairs, got, e, l, want)
	}
}

func checkClear(t *testing.T, a []uint64, from []int, pairs, l []api.Faint, want api.Errno) {
	t.Helper()
	if got, e := Clear(a, from, pairs); !slices.Equal(got, l) || e != want {
		t.Errorf("Clear(%v, %v, %v): %v, error %d, not %v, error %d", a, from, pairs, got, e, l, want)
	}
}

func checkLast(t *testing.T, a []uint64, from, queue, told, all []int, want api.Errno) {
	t.Helper()
	l, m, e := Last(a, from, queue)
	if !slices.Equal(l, told) || !slices.Equal(m, all) || e != want {
		t.Errorf("Last(%v, %v, %v): %v, %v, error %d, not %v, %v, error %d", a, from, queue, l, m, e, told, all, want)
	}
}

// checkPairs expects an error of Keep and Clear.
func checkPairs(t *testing.T, a []uint64, from []int, pairs []api.Faint, want api.Errno) {
	t.Helper()
	checkKeep(t, a, from, pairs, nil, want)
	checkClear(t, a, from, pairs, nil, want)
}

// checkErrors expects an error of all functions, whatever the pairs and the
// queue are.
func checkErrors(t *testing.T, a []uint64, from []int, want api.Errno) {
	t.Helper()
	for _, v := range []int{0, 1, -1, 256, math.MaxInt} {
		for _, n := range []int{0, 1, 32, 33} {
			checkPairs(t, a, from, slices.Repeat([]api.Faint{pair(v, v)}, n), want)
			checkLast(t, a, from, slices.Repeat([]int{v}, n), nil, nil, want)
		}
	}
}

func TestAllHeapsP170(t *testing.T) {
	kept, cleared := 0, 0
	eachHeap(func(a []uint64) {
		all := starts(a)
		for _, pairs := range lists(pairsOf(all)) {
			for _, from := range append(lists(all[:min(1, len(all))]), all) {
				l := smallest(a, from, pairs)
				checkKeep(t, a, from, pairs, l, api.OK)
				left := clearedTo(l, pairs)
				checkClear(t, a, from, pairs, left, api.OK)
				if len(left) < len(pairs) {
					cleared++
				} else if len(l) > len(smallest(a, from, nil)) {
					kept++
				}
			}
		}
	})
	if kept < 1000 || cleared < 1000 {
		t.Errorf("only %d sets with more than what is reachable, %d lists with pairs that are cleared", kept, cleared)
	}
}

func TestAllFromP170(t *testing.T) {
	eachHeap(func(a []uint64) {
		all := starts(a)
		for _, from := range lists(all) {
			for _, p := range pairsOf(all) {
				l := smallest(a, from, []api.Faint{p})
				checkKeep(t, a, from, []api.Faint{p}, l, api.OK)
				checkClear(t, a, from, []api.Faint{p}, clearedTo(l, []api.Faint{p}), api.OK)
			}
		}
	})
}

func TestKeepExamplesP170(t *testing.T) {
	// Objects at words 0 to 3, 5 and 7. The one at word 3 refers to that at word
	// 0, the one at word 5 to itself.
	a := []uint64{0, 0, 0, 1, 1, 1, 6, 0, free}
	for _, c := range []struct {
		from  []int
		pairs []api.Faint
		want  []int
	}{
		{nil, nil, nil},
		{[]int{7, 3}, nil, []int{0, 3, 7}},
		{[]int{7, 7, 0}, nil, []int{0, 7}},
		// The Key is not kept by its pair, the Value is.
		{nil, []api.Faint{pair(1, 2)}, nil},
		{[]int{2}, []api.Faint{pair(1, 2)}, []int{2}},
		{[]int{1}, []api.Faint{pair(1, 2)}, []int{1, 2}},
		// What the Value refers to is kept.
		{[]int{7}, []api.Faint{pair(7, 3)}, []int{0, 3, 7}},
		// A Key may be kept because something refers to it.
		{[]int{3}, []api.Faint{pair(0, 1)}, []int{0, 1, 3}},
		// A pair may keep the Key of another one, before or after it.
		{[]int{1}, []api.Faint{pair(1, 2), pair(2, 7)}, []int{1, 2, 7}},
		{[]int{1}, []api.Faint{pair(2, 7), pair(1, 2)}, []int{1, 2, 7}},
		{[]int{1}, []api.Faint{pair(0, 7), pair(1, 3)}, []int{0, 1, 3, 7}},
		{[]int{1}, []api.Faint{pair(7, 5), pair(0, 7), pair(1, 3)}, []int{0, 1, 3, 5, 7}},
		// Pairs that keep only each other are not kept.
		{[]int{1}, []api.Faint{pair(2, 7), pair(7, 2)}, []int{1}},
		{[]int{1}, []api.Faint{pair(2, 2), pair(5, 5)}, []int{1}},
		{[]int{7}, []api.Faint{pair(2, 7), pair(7, 2)}, []int{2, 7}},
		// A Key may have more than one Value.
		{[]int{2}, []api.Faint{pair(2, 7), pair(2, 1), pair(2, 7)}, []int{1, 2, 7}},
		{[]int{1, 2}, []api.Faint{pair(1, 7), pair(2, 7)}, []int{1, 2, 7}},
	} {
		checkKeep(t, a, c.from, c.pairs, c.want, api.OK)
		checkClear(t, a, c.from, c.pairs, clearedTo(c.want, c.pairs), api.OK)
	}
}

func TestClearExamplesP170(t *testing.T) {
	a := []uint64{0, 0, 0, 1, 1, 1, 6, 0, free}
	for _, c := range []struct {
		from        []int
		pairs, want []api.Faint
	}{
		{nil, nil, nil},
		{nil, []api.Faint{pair(0, 1), pair(2, 2)}, nil},
		// The Value refers to the Key, and nothing else does.
		{[]int{1}, []api.Faint{pair(0, 3)}, nil},
		{[]int{1}, []api.Faint{pair(5, 5)}, nil},
		{[]int{0}, []api.Faint{pair(0, 3)}, []api.Faint{pair(0, 3)}},
		// A pair whose Value is reachable is cleared all the same.
		{[]int{1}, []api.Faint{pair(2, 1)}, nil},
		// The order and repetitions remain.
		{[]int{7, 0}, []api.Faint{pair(7, 0), pair(1, 7), pair(0, 7), pair(7, 7), pair(7, 0)}, []api.Faint{pair(7, 0), pair(0, 7), pair(7, 7), pair(7, 0)}},
		// A pair that is passed over at first is kept if its Key is.
		{[]int{1}, []api.Faint{pair(7, 5), pair(2, 0), pair(0, 7), pair(1, 3)}, []api.Faint{pair(7, 5), pair(0, 7), pair(1, 3)}},
	} {
		checkClear(t, a, c.from, c.pairs, c.want, api.OK)
	}
}

func TestErrorsP170(t *testing.T) {
	// Objects at words 0, 2 and 4, and a free one at word 3.
	a := []uint64{1, 3, 0, free, 0}
	for _, from := range [][]int{{3}, {1}, {5}, {-1}, {4, 0, 3}, {0, 1, 0}} {
		checkErrors(t, a, from, api.ErrNone)
	}
	checkErrors(t, nil, []int{0}, api.ErrNone)
	checkErrors(t, []uint64{1, 2}, nil, api.ErrNone)
	checkErrors(t, []uint64{1, 3, free}, nil, api.ErrNone)
	checkErrors(t, []uint64{1, 3}, nil, api.ErrNone)
	checkErrors(t, []uint64{1}, nil, api.ErrForm)
	checkErrors(t, []uint64{free << 1}, nil, api.ErrForm)
	checkErrors(t, []uint64{free + 1, 1}, nil, api.ErrForm)
	checkErrors(t, make([]uint64, 257), nil, api.ErrLarge)
	// Each of these has the errors that follow, too.
	checkErrors(t, append([]uint64{1, 2}, append(make([]uint64, 254), 1)...), []int{256}, api.ErrLarge)
	checkErrors(t, []uint64{1, 9, 1}, []int{3}, api.ErrForm)
	checkErrors(t, []uint64{1, 9}, []int{3}, api.ErrNone)
}

// A word that is no object is an error even in a pair that would be cleared.
func TestPairErrorsP170(t *testing.T) {
	a := []uint64{1, 3, body, 9, free, 0}
	for _, at := range append(wide(), 1, 3, 4) {
		for _, from := range [][]int{nil, {0}, {5}} {
			for _, p := range []api.Faint{pair(at, 0), pair(0, at), pair(5, at), pair(at, 5), pair(at, at)} {
				checkPairs(t, a, from, []api.Faint{p}, api.ErrNone)
				checkPairs(t, a, from, []api.Faint{pair(0, 5), p, pair(2, 2)}, api.ErrNone)
				checkPairs(t, a, from, append(make([]api.Faint, 31), p), api.ErrNone)
				checkPairs(t, a, from, append(make([]api.Faint, 32), p), api.ErrLarge)
			}
		}
	}
	checkPairs(t, nil, nil, []api.Faint{{}}, api.ErrNone)
}

// There are at most 32 pairs, even if all of them are the same or are cleared.
func TestManyPairsP170(t *testing.T) {
	a := []uint64{0, 0}
	for _, p := range pairsOf([]int{0, 1}) {
		full := slices.Repeat([]api.Faint{p}, 32)
		for _, from := range lists([]int{0, 1}) {
			l := smallest(a, from, full)
			checkKeep(t, a, from, full, l, api.OK)
			checkClear(t, a, from, full, clearedTo(l, full), api.OK)
			checkPairs(t, a, from, append(slices.Clone(full), p), api.ErrLarge)
		}
	}
}

// wide are numbers that are no words of a small arena. Some of them would be if
// their upper bits were lost.
func wide() []int {
	return []int{math.MinInt, math.MinInt + 1, -1 << 32, 1 - 1<<32, -2, -1, 255, 256, 257, 1 << 16, 1 << 32, 1<<32 + 1, math.MaxInt - 1, math.MaxInt}
}

// Numbers that are equal to a word only after a conversion are no words.
func TestWideNumbersP170P171(t *testing.T) {
	for _, at := range append(wide(), 2, 3) {
		checkErrors(t, []uint64{0, 0}, []int{at}, api.ErrNone)
		checkErrors(t, []uint64{0, 0}, []int{1, 0, at}, api.ErrNone)
		checkPairs(t, []uint64{0, 0}, []int{1}, []api.Faint{pair(0, at)}, api.ErrNone)
		checkPairs(t, []uint64{0, 0}, []int{1}, []api.Faint{pair(at, 0)}, api.ErrNone)
		checkLast(t, []uint64{0, 0}, []int{1}, []int{0, at}, nil, nil, api.ErrNone)
	}
	// Words that are references only after a conversion are no references.
	for _, ref := range []uint64{1 << 32, 1<<32 + 1, 1 << 63, 1<<63 + 1, math.MaxUint64} {
		checkErrors(t, []uint64{1, ref}, []int{0}, api.ErrNone)
		checkKeep(t, []uint64{body, ref, 0}, []int{2}, []api.Faint{pair(2, 0)}, []int{0, 2}, api.OK)
	}
}

func TestAllHeapsP171(t *testing.T) {
	done, more := 0, 0
	eachHeap(func(a []uint64) {
		all := starts(a)
		for _, from := range lists(all) {
			for _, queue := range lists(all) {
				told, left := lastOf(a, from, queue)
				checkLast(t, a, from, queue, told, left, api.OK)
				done++
				if len(told) > 0 && len(left) > len(from)+len(told) {
					more++
				}
			}
		}
	})
	if done < 10000 || more < 100 {
		t.Errorf("only %d calls, %d with objects to which others refer", done, more)
	}
}

func TestLastExamplesP171(t *testing.T) {
	// The object at word 0 refers to that at word 2, which refers to that at
	// word 4. The one at word 6 refers to itself.
	a := []uint64{1, 3, 1, 5, 0, free, 1, 7, 0}
	for _, c := range []struct{ from, queue, told, all []int }{
		{nil, nil, nil, nil},
		{[]int{2}, nil, nil, []int{2, 4}},
		{[]int{2}, []int{0, 6}, []int{0, 6}, []int{0, 2, 4, 6}},
		{[]int{2}, []int{6, 0}, []int{6, 0}, []int{0, 2, 4, 6}},
		// What is reachable is not told, however it is named.
		{[]int{2}, []int{2, 4}, nil, []int{2, 4}},
		{[]int{8, 2, 8}, []int{4, 8, 6, 2}, []int{6}, []int{2, 4, 6, 8}},
		// One element of queue may refer to another one.
		{nil, []int{0, 2, 4}, []int{0, 2, 4}, []int{0, 2, 4}},
		{nil, []int{4, 0}, []int{4, 0}, []int{0, 2, 4}},
		{nil, []int{6}, []int{6}, []int{6}},
		// Repetitions remain.
		{[]int{4}, []int{8, 2, 8, 4, 8, 2}, []int{8, 2, 8, 8, 2}, []int{2, 4, 8}},
		// Objects of neither list are not kept, free ones neither.
		{[]int{8}, []int{4}, []int{4}, []int{4, 8}},
	} {
		checkLast(t, a, c.from, c.queue, c.told, c.all, api.OK)
	}
	checkLast(t, []uint64{free, free + body, 1}, nil, nil, nil, nil, api.OK)
	// Data words are no references, and null is none to the first object.
	checkLast(t, []uint64{0, body, 1, 1, 0}, nil, []int{3, 1}, []int{3, 1}, []int{1, 3}, api.OK)
}

// What is returned of queue is what a second call does not return again, if the
// words are kept.
func TestLastTwiceP171(t *testing.T) {
	eachHeap(func(a []uint64) {
		for _, queue := range lists(starts(a)) {
			_, all, _ := Last(a, nil, queue)
			checkLast(t, a, all, queue, nil, all, api.OK)
			if l, _ := tint.Reach(a, queue); !slices.Equal(l, all) {
				t.Errorf("%v, %v: %v, not %v", a, queue, all, l)
			}
		}
	})
}

func TestErrorsP171(t *testing.T) {
	a := []uint64{1, 3, body, 9, free, 0}
	for _, at := range append(wide(), 1, 3, 4) {
		for _, from := range [][]int{nil, {0}, {5}} {
			checkLast(t, a, from, []int{at}, nil, nil, api.ErrNone)
			checkLast(t, a, from, []int{5, at, 0}, nil, nil, api.ErrNone)
			checkLast(t, a, from, append(make([]int, 31), at), nil, nil, api.ErrNone)
			checkLast(t, a, from, append(make([]int, 32), at), nil, nil, api.ErrLarge)
		}
	}
	checkLast(t, nil, nil, []int{0}, nil, nil, api.ErrNone)
	// There are at most 32 elements, even if all of them are reachable.
	full := slices.Repeat([]int{5}, 32)
	checkLast(t, a, nil, full, full, []int{5}, api.OK)
	checkLast(t, a, []int{5}, full, nil, []int{5}, api.OK)
	checkLast(t, a, nil, append(slices.Clone(full), 5), nil, nil, api.ErrLarge)
	checkLast(t, a, []int{5}, append(slices.Clone(full), 5), nil, nil, api.ErrLarge)
}

// In a full arena each word is an object, or one object refers to the last one.
func TestFullArenaP170P171(t *testing.T) {
	a := make([]uint64, 256)
	var all []int
	for at := range 256 {
		all = append(all, at)
	}
	checkKeep(t, a, all, []api.Faint{pair(255, 0)}, all, api.OK)
	checkKeep(t, a, []int{0}, []api.Faint{pair(0, 255)}, []int{0, 255}, api.OK)
	checkKeep(t, a, []int{255}, []api.Faint{pair(255, 254)}, []int{254, 255}, api.OK)
	checkClear(t, a, []int{254}, []api.Faint{pair(255, 254), pair(254, 255), pair(253, 0)}, []api.Faint{pair(255, 254), pair(254, 255)}, api.OK)
	checkLast(t, a, all, all[224:], nil, all, api.OK)
	checkLast(t, a, all[:255], all[224:], []int{255}, all, api.OK)
	checkLast(t, a, nil, all[224:], all[224:], all[224:], api.OK)
	a[0], a[1] = 1, 256
	checkKeep(t, a, []int{2}, []api.Faint{pair(255, 3), pair(2, 0)}, []int{0, 2, 3, 255}, api.OK)
	checkLast(t, a, nil, []int{0}, []int{0}, []int{0, 255}, api.OK)
}

// Each of 32 pairs keeps the Key of another one, with an object between them.
func TestChainP170(t *testing.T) {
	var a []uint64
	var pairs []api.Faint
	var all []int
	for at := 0; at < 32*3; at += 3 {
		// The Key is at word at, and the Value, behind it, refers to the next Key.
		a = append(a, 0, 1, uint64(at+4))
		pairs = append(pairs, pair(at, at+1))
		all = append(all, at, at+1)
	}
	a, all = append(a, 0), append(all, 96)
	back := slices.Clone(pairs)
	slices.Reverse(back)
	for k := range 32 {
		checkKeep(t, a, []int{3 * k}, pairs, all[2*k:], api.OK)
		checkKeep(t, a, []int{3 * k}, back, all[2*k:], api.OK)
		checkClear(t, a, []int{3 * k}, pairs, pairs[k:], api.OK)
		checkClear(t, a, []int{3 * k}, back, back[:32-k], api.OK)
		// Without one pair, the chain ends at its Key.
		checkKeep(t, a, []int{0}, slices.Delete(slices.Clone(back), k, k+1), all[:2*(31-k)+1], api.OK)
	}
	checkKeep(t, a, []int{96}, back, []int{96}, api.OK)
	checkClear(t, a, []int{96}, back, nil, api.OK)
	// If the last Value refers to the first Key, any Key keeps all.
	a[95] = 1
	for k := range 32 {
		checkKeep(t, a, []int{3 * k}, back, all[:64], api.OK)
		checkClear(t, a, []int{3*k + 1}, back, back, api.OK)
	}
	checkClear(t, a, nil, back, nil, api.OK)
}
