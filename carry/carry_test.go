package carry

import (
	"math"
	"slices"
	"testing"

	"cairnfield/api"
	"cairnfield/tint"
	"cairnfield/walk"
)

const (
	free   = 1 << 48
	tagged = 5 << 32
	body   = 1 << 16
)

// pieces are the words of single objects. Some of their references are valid
// only behind or before certain others, and some of their data words look like
// references.
func pieces() [][]uint64 {
	return [][]uint64{
		{0}, {tagged + body, 3}, {1, 1}, {2 + body, 3, 0, 1}, {tagged + 2, 5, 3}, {free}, {free + body, 1},
	}
}

// eachHeap calls check with all valid arenas of up to four of the pieces.
func eachHeap(check func(a []uint64)) {
	level := [][]uint64{nil}
	for range 5 {
		var next [][]uint64
		for _, a := range level {
			if walk.Check(a) == api.OK {
				check(a)
			}
			for _, p := range pieces() {
				next = append(next, slices.Concat(a, p))
			}
		}
		level = next
	}
}

// starts returns the words of the objects that are not free.
func starts(a []uint64) []int {
	var l []int
	spots, _ := walk.Spots(a)
	for _, s := range spots {
		if !s.Head.Free {
			l = append(l, s.At)
		}
	}
	return l
}

// lists returns all lists of up to three of the words, in any order and with
// repetitions.
func lists(words []int) [][]int {
	all := [][]int{nil}
	last := all
	for range 3 {
		var next [][]int
		for _, l := range last {
			for _, v := range words {
				next = append(next, append(slices.Clone(l), v))
			}
		}
		all = append(all, next...)
		last = next
	}
	return all
}

// distinct returns the first occurrence of each number.
func distinct(l []int) []int {
	var d []int
	for _, v := range l {
		if !slices.Contains(d, v) {
			d = append(d, v)
		}
	}
	return d
}

// headOf returns the header of the object at word at.
func headOf(a []uint64, at int) api.Head {
	spots, _ := walk.Spots(a)
	for _, s := range spots {
		if s.At == at {
			return s.Head
		}
	}
	return api.Head{}
}

// inOrder writes down from, and then what each object in the list refers to,
// until the list is the same as before.
func inOrder(a []uint64, from []int) []int {
	l := distinct(from)
	for {
		all := slices.Clone(from)
		for _, at := range l {
			for i := range headOf(a, at).Refs {
				if ref := a[at+1+i]; ref != 0 {
					all = append(all, int(ref)-1)
				}
			}
		}
		next := distinct(all)
		if slices.Equal(l, next) {
			return l
		}
		l = next
	}
}

// copied writes the objects of a list one after the other, and returns the
// words and their positions.
func copied(a []uint64, l []int) ([]uint64, []int) {
	var b []uint64
	var to []int
	for _, at := range l {
		h := headOf(a, at)
		to = append(to, len(b))
		b = append(b, a[at:][:1+h.Refs+h.Body]...)
	}
	for i, at := range to {
		for j := range headOf(a, l[i]).Refs {
			if ref := &b[at+1+j]; *ref != 0 {
				*ref = 1 + uint64(to[slices.Index(l, int(*ref)-1)])
			}
		}
	}
	return b, to
}

// withRest appends a free object up to n words.
func withRest(b []uint64, n int) []uint64 {
	rest := n - len(b)
	if rest == 0 {
		return b
	}
	return slices.Concat(b, []uint64{free + uint64(rest-1)*body}, make([]uint64, rest-1))
}

func checkOrder(t *testing.T, a []uint64, from, l []int, want api.Errno) {
	t.Helper()
	got, e := Order(a, from)
	if !slices.Equal(got, l) || e != want {
		t.Errorf("Order(%v, %v): %v, error %d, not %v, error %d", a, from, got, e, l, want)
	}
}

func checkCopy(t *testing.T, a []uint64, from []int, n int, b []uint64, l, to []int, want api.Errno) {
	t.Helper()
	c, order, at, e := Copy(a, from, n)
	if !slices.Equal(c, b) || !slices.Equal(order, l) || !slices.Equal(at, to) || e != want {
		t.Errorf("Copy(%v, %v, %d): %v, %v, %v, error %d, not %v, %v, %v, error %d", a, from, n, c, order, at, e, b, l, to, want)
	}
}

func TestAllHeapsP140(t *testing.T) {
	done := 0
	eachHeap(func(a []uint64) {
		for _, from := range lists(starts(a)) {
			l := inOrder(a, from)
			checkOrder(t, a, from, l, api.OK)
			reached, e := tint.Reach(a, from)
			if slices.Sort(l); !slices.Equal(l, reached) || e != api.OK {
				t.Errorf("%v, %v: %v, not %v", a, from, l, reached)
			}
			done++
		}
	})
	if done < 10000 {
		t.Errorf("only %d lists", done)
	}
}

func TestEdgesP140(t *testing.T) {
	checkOrder(t, nil, nil, nil, api.OK)
	checkOrder(t, []uint64{0}, nil, nil, api.OK)
	checkOrder(t, []uint64{free, 0}, []int{1, 1}, []int{1}, api.OK)
	// All of from comes first, whatever its first element refers to.
	a := []uint64{2, 10, 7, 1, 9, 0, 1, 4, 0, 0}
	checkOrder(t, a, []int{0}, []int{0, 9, 6, 3, 8}, api.OK)
	checkOrder(t, a, []int{0, 8, 3, 0}, []int{0, 8, 3, 9, 6}, api.OK)
	checkOrder(t, a, []int{8, 0, 8}, []int{8, 0, 9, 6, 3}, api.OK)
	// References are followed in order: the first one first, and null not at all.
	checkOrder(t, []uint64{3, 7, 0, 6, 0, 0, 0}, []int{0}, []int{0, 6, 5}, api.OK)
	// An object refers to itself, to the one before it, and twice to the same.
	checkOrder(t, []uint64{1, 1, 3, 6 + 1, 1, 3, 0}, []int{2}, []int{2, 6, 0}, api.OK)
	checkOrder(t, []uint64{2, 4, 4, 0}, []int{0}, []int{0, 3}, api.OK)
	checkOrder(t, []uint64{1, 1}, []int{0, 0}, []int{0}, api.OK)
	// A data word is no reference.
	checkOrder(t, []uint64{2 * body, 4, 4, 0}, []int{0}, []int{0}, api.OK)
}

// Near objects come before far ones: breadth first, not depth first.
func TestTreeP140(t *testing.T) {
	var a []uint64
	var l []int
	// Object i refers to objects 2i+1 and 2i+2, each of which takes three words.
	for i := range 85 {
		a = append(a, 2, 0, 0)
		for side := 1; side <= 2 && 2*i+side < 85; side++ {
			a[3*i+side] = uint64(3*(2*i+side)) + 1
		}
		l = append(l, 3*i)
	}
	checkOrder(t, a, []int{0}, l, api.OK)
	checkCopy(t, a, []int{0}, 255, a, l, l, api.OK)
	// If a tree begins at its two halves, these take turns.
	l = inOrder(a, []int{6, 3})
	checkOrder(t, a, []int{6, 3}, l, api.OK)
	if !slices.Equal(l[:6], []int{6, 3, 15, 18, 9, 12}) {
		t.Errorf("%v", l)
	}
}

func TestAllHeapsP141(t *testing.T) {
	full := 0
	eachHeap(func(a []uint64) {
		for _, from := range lists(starts(a)) {
			l := inOrder(a, from)
			b, to := copied(a, l)
			words, _ := tint.Words(a, from)
			if words != len(b) {
				t.Errorf("%v, %v: %d words, not %d", a, from, len(b), words)
			}
			for _, n := range []int{words, words + 1, words + 3} {
				checkCopy(t, a, from, n, withRest(b, n), l, to, api.OK)
			}
			if words > 0 {
				checkCopy(t, a, from, words-1, nil, nil, nil, api.ErrFull)
				full++
			}
		}
	})
	if full < 10000 {
		t.Errorf("only %d copies", full)
	}
}

// A copy is in its own order already.
func TestTwiceIsOnceP141(t *testing.T) {
	eachHeap(func(a []uint64) {
		for _, from := range lists(starts(a)) {
			b, l, to, e := Copy(a, from, 20)
			if e != api.OK || walk.Check(b) != api.OK {
				t.Fatalf("%v, %v: %v, error %d", a, from, b, e)
			}
			var now []int
			for _, at := range from {
				now = append(now, to[slices.Index(l, at)])
			}
			checkCopy(t, b, now, 20, b, to, to, api.OK)
		}
	})
}

func TestEdgesP141(t *testing.T) {
	checkCopy(t, nil, nil, 0, nil, nil, nil, api.OK)
	checkCopy(t, nil, nil, 1, []uint64{free}, nil, nil, api.OK)
	checkCopy(t, []uint64{0, body, 9}, nil, 0, nil, nil, nil, api.OK)
	// Only garbage is copied into four words.
	checkCopy(t, []uint64{0, body, 9, 1, 1, free}, nil, 4, []uint64{free + 3*body, 0, 0, 0}, nil, nil, api.OK)
	checkCopy(t, []uint64{0}, []int{0}, 1, []uint64{0}, []int{0}, []int{0}, api.OK)
	// The number of words may be less or more than before.
	checkCopy(t, []uint64{free, 0, 0}, []int{2}, 1, []uint64{0}, []int{2}, []int{0}, api.OK)
	checkCopy(t, []uint64{0}, []int{0}, 3, []uint64{0, free + body, 0}, []int{0}, []int{0}, api.OK)
	// The first element of from is first, and not the first object.
	checkCopy(t, []uint64{0, tagged, 7 << 32}, []int{2, 0, 2}, 3, []uint64{7 << 32, 0, free}, []int{2, 0}, []int{0, 1}, api.OK)
	// References lead forwards, backwards, to the object itself and to none.
	checkCopy(t, []uint64{tagged, 4 + body, 1, 2, 0, 8, 2, 0}, []int{1}, 9,
		[]uint64{4 + body, 7, 1, 0, 8, 2, tagged, 0, free}, []int{1, 0, 7}, []int{0, 6, 7}, api.OK)
	// Data words are any words, and stay as they are.
	checkCopy(t, []uint64{free, 1 + 2*body, 2, 2, math.MaxUint64}, []int{1}, 4,
		[]uint64{1 + 2*body, 1, 2, math.MaxUint64}, []int{1}, []int{0}, api.OK)
	// The greatest tag is copied, too.
	checkCopy(t, []uint64{65535 << 32}, []int{0}, 1, []uint64{65535 << 32}, []int{0}, []int{0}, api.OK)
}

// In a full arena each word is an object, or one object takes all words.
func TestFullArenaP140P141(t *testing.T) {
	a := make([]uint64, 256)
	b := make([]uint64, 256)
	var down, up []int
	for at := range 256 {
		a[at] = uint64(at) << 32
		b[255-at] = a[at]
		down = append(down, 255-at)
		up = append(up, at)
	}
	checkOrder(t, a, down, down, api.OK)
	checkCopy(t, a, down, 256, b, down, up, api.OK)
	checkCopy(t, a, down, 255, nil, nil, nil, api.ErrFull)
	checkCopy(t, a, nil, 256, withRest(nil, 256), nil, nil, api.OK)
	a[0] = 255
	for at := 1; at < 256; at++ {
		a[at] = 1
	}
	checkCopy(t, a, []int{0}, 256, a, []int{0}, []int{0}, api.OK)
	checkCopy(t, a, []int{0}, 255, nil, nil, nil, api.ErrFull)
}

// A chain of objects leads from the last one to the first one.
func TestChainP140P141(t *testing.T) {
	var a, b []uint64
	var down, up []int
	for at := 0; at < 256; at += 2 {
		a = append(a, 1, uint64(max(0, at-1)))
		b = append(b, 1, uint64(at+3)%257)
		down = append(down, 254-at)
		up = append(up, at)
	}
	b[255] = 0
	checkOrder(t, a, []int{254}, down, api.OK)
	checkCopy(t, a, []int{254}, 256, b, down, up, api.OK)
}

// checkErrors expects an error that both functions have.
func checkErrors(t *testing.T, a []uint64, from []int, want api.Errno) {
	t.Helper()
	checkOrder(t, a, from, nil, want)
	// Each number of words has an error that follows, or none.
	for _, n := range []int{math.MinInt, -1, 0, 1, 256, 257, math.MaxInt} {
		checkCopy(t, a, from, n, nil, nil, nil, want)
	}
}

func TestErrorsP140(t *testing.T) {
	// Objects at words 0, 2 and 4, and a free one at word 3.
	a := []uint64{1, 3, 0, free, 0}
	checkErrors(t, a, []int{3}, api.ErrNone)
	checkErrors(t, a, []int{1}, api.ErrNone)
	checkErrors(t, a, []int{5}, api.ErrNone)
	checkErrors(t, a, []int{-1}, api.ErrNone)
	checkErrors(t, a, []int{4, 0, 3}, api.ErrNone)
	checkErrors(t, nil, []int{0}, api.ErrNone)
	checkErrors(t, []uint64{1, 2}, nil, api.ErrNone)
	checkErrors(t, []uint64{1, 2, free}, nil, api.ErrNone)
	checkErrors(t, []uint64{1}, nil, api.ErrForm)
	checkErrors(t, []uint64{free << 1}, nil, api.ErrForm)
	checkErrors(t, make([]uint64, 257), nil, api.ErrLarge)
	// Each of these has the errors that follow, too.
	checkErrors(t, append(make([]uint64, 256), 1), []int{256}, api.ErrLarge)
	checkErrors(t, []uint64{1, 9, 1}, []int{3}, api.ErrForm)
	checkErrors(t, []uint64{1, 9}, []int{3}, api.ErrNone)
}

func TestErrorsP141(t *testing.T) {
	// Objects at words 0, 2 and 4, and a free one at word 3.
	a := []uint64{1, 3, 0, free, 0}
	for _, c := range []struct {
		from []int
		n    int
		want api.Errno
	}{
		{nil, -1, api.ErrRange},
		{nil, 257, api.ErrRange},
		{nil, math.MinInt, api.ErrRange},
		{nil, math.MaxInt, api.ErrRange},
		// This is an error of the number before it is one of the room.
		{[]int{0}, -1, api.ErrRange},
		{[]int{0}, 1 << 32, api.ErrRange},
		{[]int{0}, -1<<32 + 3, api.ErrRange},
		{[]int{0}, 2, api.ErrFull},
		{[]int{0, 4}, 3, api.ErrFull},
		{[]int{4}, 0, api.ErrFull},
	} {
		checkCopy(t, a, c.from, c.n, nil, nil, nil, c.want)
	}
	// Repetitions take no room.
	checkCopy(t, a, []int{4, 2, 4, 2}, 2, []uint64{0, 0}, []int{4, 2}, []int{0, 1}, api.OK)
	// What is not reachable takes none, either.
	checkCopy(t, a, []int{0, 2}, 3, []uint64{1, 3, 0}, []int{0, 2}, []int{0, 2}, api.OK)
}

// Numbers that are equal to a word only after a conversion are no words.
func TestWideNumbersP140(t *testing.T) {
	for _, at := range []int{math.MinInt, math.MinInt + 1, -1 << 32, -1, 2, 256, 257, 1 << 32, 1<<32 + 1, math.MaxInt} {
		checkErrors(t, []uint64{0, 0}, []int{at}, api.ErrNone)
		checkErrors(t, []uint64{0, 0}, []int{1, 0, at}, api.ErrNone)
	}
	// Words that are references only after a conversion are no references.
	for _, ref := range []uint64{1 << 32, 1<<32 + 1, 1 << 63, 1<<63 + 1, math.MaxUint64} {
		checkErrors(t, []uint64{1, ref}, []int{0}, api.ErrNone)
		checkOrder(t, []uint64{body, ref}, []int{0}, []int{0}, api.OK)
	}
}
