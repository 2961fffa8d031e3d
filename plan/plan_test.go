package plan

import (
	"math"
	"slices"
	"testing"

	"cairnfield/api"
	"cairnfield/walk"
)

const (
	free   = 1 << 48
	tagged = 5 << 32
	body   = 1 << 16
)

// pieces are the words of single objects. Some of their references are valid
// only behind or before certain others.
func pieces() [][]uint64 {
	return [][]uint64{
		{0}, {tagged + body, 7}, {1, 1}, {2 + body, 3, 0, 9}, {free}, {free + 2*body, 0, 3},
	}
}

// eachHeap calls check with all valid arenas of up to five of the pieces.
func eachHeap(check func(objects [][]uint64)) {
	level := [][][]uint64{nil}
	for range 6 {
		var next [][][]uint64
		for _, objects := range level {
			if walk.Check(slices.Concat(objects...)) == api.OK {
				check(objects)
			}
			for _, p := range pieces() {
				next = append(next, append(slices.Clone(objects), p))
			}
		}
		level = next
	}
}

// choice says of each object whether it is kept, and whether it is pinned.
type choice struct {
	kept, pinned bool
}

// eachChoice calls check with all choices of the objects that are not free.
func eachChoice(objects [][]uint64, check func(l []choice)) {
	codes := 1
	for range objects {
		codes *= 3
	}
	for code := range codes {
		l := make([]choice, len(objects))
		valid := true
		for i, o := range objects {
			l[i] = choice{kept: code%3 > 0, pinned: code%3 > 1}
			valid = valid && (o[0] < free || code%3 == 0)
			code /= 3
		}
		if valid {
			check(l)
		}
	}
}

// starts returns the words of the chosen objects.
func starts(objects [][]uint64, l []choice) (keep, pinned []int) {
	at := 0
	for i, o := range objects {
		if l[i].kept {
			keep = append(keep, at)
		}
		if l[i].pinned {
			pinned = append(pinned, at)
		}
		at += len(o)
	}
	return keep, pinned
}

// total returns how many words the objects take.
func total(objects [][]uint64) int {
	return len(slices.Concat(objects...))
}

// newStart adds up what is kept from the last pinned object to object number i.
func newStart(objects [][]uint64, l []choice, i int) int {
	sum := 0
	for k := i; k >= 0; k-- {
		if k < i && l[k].kept {
			sum += len(objects[k])
		}
		if l[k].pinned {
			return sum + total(objects[:k])
		}
	}
	return sum
}

// gapsOf looks at each word and at the one before it.
func gapsOf(taken []bool) []api.Run {
	var gaps []api.Run
	for at, is := range taken {
		if is {
			continue
		}
		if at == 0 || taken[at-1] {
			gaps = append(gaps, api.Run{At: at})
		}
		gaps[len(gaps)-1].Long++
	}
	return gaps
}

// planOf returns the plan word by word. Two objects in one place, or one behind
// the last word, are an error of the test.
func planOf(t *testing.T, objects [][]uint64, l []choice) ([]int, []api.Run) {
	t.Helper()
	var to []int
	taken := make([]bool, total(objects))
	for i, o := range objects {
		if !l[i].kept {
			continue
		}
		at := newStart(objects, l, i)
		to = append(to, at)
		for k := at; k < at+len(o); k++ {
			if taken[k] {
				t.Fatalf("%v, %v: word %d is taken twice", objects, l, k)
			}
			taken[k] = true
		}
	}
	return to, gapsOf(taken)
}

func check(t *testing.T, a []uint64, keep, pinned, to []int, gaps []api.Run) {
	t.Helper()
	if got, e := To(a, keep, pinned); !slices.Equal(got, to) || e != api.OK {
		t.Errorf("To(%v, %v, %v): %v, error %d, not %v", a, keep, pinned, got, e, to)
	}
	if got, e := Gaps(a, keep, pinned); !slices.Equal(got, gaps) || e != api.OK {
		t.Errorf("Gaps(%v, %v, %v): %v, error %d, not %v", a, keep, pinned, got, e, gaps)
	}
}

func TestAllPlansP120P121(t *testing.T) {
	done := 0
	eachHeap(func(objects [][]uint64) {
		a := slices.Concat(objects...)
		eachChoice(objects, func(l []choice) {
			keep, pinned := starts(objects, l)
			to, gaps := planOf(t, objects, l)
			check(t, a, keep, pinned, to, gaps)
			done++
		})
	})
	if done < 10000 {
		t.Errorf("only %d plans", done)
	}
}

func TestExampleP120P121(t *testing.T) {
	a := []uint64{free + body, 0, body, 7, free + body, 0, 0}
	check(t, a, []int{2, 6}, []int{6}, []int{0, 6}, []api.Run{{At: 2, Long: 4}})
	check(t, append(a, free), []int{2, 6}, []int{6}, []int{0, 6}, []api.Run{{At: 2, Long: 4}, {At: 7, Long: 1}})
}

func TestEdgesP120P121(t *testing.T) {
	check(t, nil, nil, nil, nil, nil)
	check(t, []uint64{0}, []int{0}, nil, []int{0}, nil)
	check(t, []uint64{0}, nil, nil, nil, []api.Run{{At: 0, Long: 1}})
	check(t, []uint64{free + body, 1}, nil, nil, nil, []api.Run{{At: 0, Long: 2}})
	// Objects after a pinned one do not move before it, although there is room.
	check(t, []uint64{free + body, 0, 0, free, 0}, []int{2, 4}, []int{2}, []int{2, 3}, []api.Run{{At: 0, Long: 2}, {At: 4, Long: 1}})
	// Nothing moves between pinned objects that are neighbors.
	check(t, []uint64{0, 0, 0, 0}, []int{1, 2, 3}, []int{1, 2}, []int{1, 2, 3}, []api.Run{{At: 0, Long: 1}})
	// What is not kept makes room, although kept objects refer to it.
	check(t, []uint64{0, 1, 1, 0}, []int{1, 3}, nil, []int{0, 2}, []api.Run{{At: 3, Long: 1}})
}

// In a full arena each word is an object, or one object takes all words.
func TestFullArenaP120P121(t *testing.T) {
	a := make([]uint64, 256)
	var all, odd, half []int
	var gaps []api.Run
	for at := range a {
		all = append(all, at)
		if at%2 == 1 {
			odd = append(odd, at)
			half = append(half, at/2)
			gaps = append(gaps, api.Run{At: at - 1, Long: 1})
		}
	}
	check(t, a, all, nil, all, nil)
	// There may be more pinned objects than a list of pins has.
	check(t, a, all, all, all, nil)
	check(t, a, odd, nil, half, []api.Run{{At: 128, Long: 128}})
	check(t, a, odd, odd, odd, gaps)
	check(t, a, []int{254, 255}, []int{255}, []int{0, 255}, []api.Run{{At: 1, Long: 254}})
	a[0] = 255 * body
	check(t, a, []int{0}, nil, []int{0}, nil)
	check(t, a, nil, nil, nil, []api.Run{{At: 0, Long: 256}})
}

// lists has all lists of up to three of the numbers.
func lists(numbers ...int) [][]int {
	all := [][]int{nil}
	for first, n := 0, 0; n < 3; n++ {
		last := len(all)
		for _, l := range all[first:last] {
			for _, v := range numbers {
				all = append(all, append(slices.Clone(l), v))
			}
		}
		first = last
	}
	return all
}

// rises compares each number with each one after it.
func rises(l []int) bool {
	for i := range l {
		for k := range i {
			if l[k] >= l[i] {
				return false
			}
		}
	}
	return true
}

// errorOf follows the list of errors of P120.
func errorOf(a []uint64, keep, pinned []int) api.Errno {
	if e := walk.Check(a); e != api.OK {
		return e
	}
	if !rises(keep) || !rises(pinned) {
		return api.ErrForm
	}
	spots, _ := walk.Spots(a)
	for _, at := range keep {
		if !slices.ContainsFunc(spots, func(s api.Spot) bool { return s.At == at && !s.Head.Free }) {
			return api.ErrNone
		}
	}
	for _, at := range pinned {
		if !slices.Contains(keep, at) {
			return api.ErrNone
		}
	}
	return api.OK
}

// checkError expects nothing else together with an error.
func checkError(t *testing.T, a []uint64, keep, pinned []int, want api.Errno) {
	t.Helper()
	to, e := To(a, keep, pinned)
	gaps, f := Gaps(a, keep, pinned)
	if e != want || f != want || want != api.OK && len(to)+len(gaps) != 0 {
		t.Errorf("%v, %v, %v: %v, %v, errors %d, %d, not %d", a, keep, pinned, to, gaps, e, f, want)
	}
}

func TestErrorsP120(t *testing.T) {
	seen := map[api.Errno]int{}
	for _, a := range [][]uint64{
		{1, 3, 1, 1, free}, // two objects that refer to each other
		{1, 5, free, 0, 0},
		{body, 3, 0, free, 1, 1},
		{1, 4, 1, 0, 0}, // a reference into an object
		{1, 1, 1 << 60}, // no header
		{1, 3, free},    // a reference to a free object
		{1},             // an object that extends beyond the end
		make([]uint64, 257),
		nil,
	} {
		for _, keep := range lists(0, 2, 3, 4) {
			for _, pinned := range lists(-1, 0, 2, 4) {
				want := errorOf(a, keep, pinned)
				checkError(t, a, keep, pinned, want)
				seen[want]++
			}
		}
	}
	for _, e := range []api.Errno{api.OK, api.ErrLarge, api.ErrForm, api.ErrNone} {
		if seen[e] < 20 {
			t.Errorf("only %d plans have the error %d", seen[e], e)
		}
	}
}

func TestErrorExamplesP120(t *testing.T) {
	// Objects at words 0, 4 and 5, and a free one at word 2.
	a := []uint64{1, 5, free + body, 0, 0, 0}
	for _, c := range []struct {
		a            []uint64
		keep, pinned []int
		want         api.Errno
	}{
		{a, []int{0, 4, 5}, []int{0, 5}, api.OK},
		{a, []int{0, 4}, []int{0, 4}, api.OK},
		{a, []int{4, 0}, nil, api.ErrForm},
		{a, []int{4, 4}, nil, api.ErrForm},
		{a, []int{0, 4, 5}, []int{5, 4}, api.ErrForm},
		{a, []int{0, 4, 5}, []int{4, 4}, api.ErrForm},
		{a, []int{2}, nil, api.ErrNone},
		{a, []int{1}, nil, api.ErrNone},
		{a, []int{0, 3}, nil, api.ErrNone},
		{a, []int{0, 6}, nil, api.ErrNone},
		{a, []int{-1, 0}, nil, api.ErrNone},
		{a, []int{0, 4}, []int{5}, api.ErrNone},
		{a, []int{0, 5}, []int{0, 4}, api.ErrNone},
		{a, []int{0, 5}, []int{0, 5, 6}, api.ErrNone},
		{a, []int{0, 5}, []int{-1, 0}, api.ErrNone},
		{a, nil, []int{0}, api.ErrNone},
		// Each of these has the errors that follow, too.
		{append(slices.Clone(a), make([]uint64, 251)...), []int{5, 2}, []int{1, 1}, api.ErrLarge},
		{append(slices.Clone(a), 1<<60), []int{5, 2}, []int{1, 1}, api.ErrForm},
		{[]uint64{1, 9}, []int{5, 2}, []int{1, 1}, api.ErrNone},
		{a, []int{2, 1}, []int{3}, api.ErrForm},
		{a, []int{2}, []int{3, 1}, api.ErrForm},
	} {
		checkError(t, c.a, c.keep, c.pinned, c.want)
	}
}

// Numbers that are equal to a word only after a conversion are no words.
func TestWideNumbersP120(t *testing.T) {
	for _, at := range []int{math.MinInt, math.MinInt + 1, -1 << 32, -2, 256, 257, 1 << 32, 1<<32 + 1, math.MaxInt} {
		keep := []int{0, 1, at}
		slices.Sort(keep)
		checkError(t, []uint64{0, 0}, keep, nil, api.ErrNone)
		checkError(t, []uint64{0, 0}, []int{0, 1}, []int{at}, api.ErrNone)
		checkError(t, []uint64{0, 0}, []int{at}, []int{at}, api.ErrNone)
	}
}
