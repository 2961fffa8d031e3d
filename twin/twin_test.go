package twin

import (
	"math"
	"slices"
	"testing"

	"cairnfield/api"
)

// blocks lists all blocks among 2^order words, the short ones first.
func blocks(order int) []api.Run {
	var l []api.Run
	for long := 1; long <= 1<<order; long *= 2 {
		for at := 0; at < 1<<order; at += long {
			l = append(l, api.Run{At: at, Long: long})
		}
	}
	return l
}

// rooms lists the blocks with every number of words that may be used.
func rooms(order int) []api.Room {
	var l []api.Room
	for _, b := range blocks(order) {
		for used := b.Long; 2*used > b.Long; used-- {
			l = append(l, api.Room{At: b.At, Long: b.Long, Used: used})
		}
	}
	return l
}

// fillings lists every way in which a block's words can be allocated: not at
// all or in parts, which includes both halves being free, or as one.
func fillings(at, long int) [][]api.Room {
	all := [][]api.Room{nil}
	if long > 1 {
		all = nil
		for _, first := range fillings(at, long/2) {
			for _, second := range fillings(at+long/2, long/2) {
				all = append(all, slices.Concat(first, second))
			}
		}
	}
	for used := long/2 + 1; used <= long; used++ {
		all = append(all, []api.Room{{At: at, Long: long, Used: used}})
	}
	return all
}

// eachHalves calls check with every allocator of up to eight words.
func eachHalves(check func(h api.Halves)) {
	for order := range 4 {
		for _, taken := range fillings(0, 1<<order) {
			check(api.Halves{Order: order, Taken: taken})
		}
	}
}

// allocated tells of each word of the allocator whether it is allocated.
func allocated(h api.Halves) []bool {
	is := make([]bool, 1<<h.Order)
	for _, r := range h.Taken {
		for k := range r.Long {
			is[r.At+k] = true
		}
	}
	return is
}

// gapsOf tests each block, and the block of twice its size.
func gapsOf(h api.Halves) []api.Run {
	is := allocated(h)
	var gaps []api.Run
	for _, b := range blocks(h.Order) {
		if slices.Contains(is[b.At:b.At+b.Long], true) {
			continue
		}
		twice := 2 * b.Long
		start := b.At - b.At%twice
		if twice > len(is) || slices.Contains(is[start:start+twice], true) {
			gaps = append(gaps, b)
		}
	}
	slices.SortFunc(gaps, func(a, b api.Run) int { return a.At - b.At })
	return gaps
}

// takenBlock is where P62 puts n words, which are from 1 to all of them.
func takenBlock(h api.Halves, n int) (api.Run, api.Errno) {
	long := 1
	for long < n {
		long *= 2
	}
	for fit := long; fit <= 1<<h.Order; fit *= 2 {
		for _, g := range gapsOf(h) {
			if g.Long == fit {
				return api.Run{At: g.At, Long: long}, api.OK
			}
		}
	}
	return api.Run{}, api.ErrFull
}

// added adds an allocated block and sorts the list again.
func added(h api.Halves, b api.Run, n int) api.Halves {
	taken := append(slices.Clone(h.Taken), api.Room{At: b.At, Long: b.Long, Used: n})
	slices.SortFunc(taken, func(a, b api.Room) int { return a.At - b.At })
	return api.Halves{Order: h.Order, Taken: taken}
}

// without leaves out the block at word at, and says whether there is one.
func without(h api.Halves, at int) (api.Halves, bool) {
	left := api.Halves{Order: h.Order}
	for _, r := range h.Taken {
		if r.At != at {
			left.Taken = append(left.Taken, r)
		}
	}
	return left, len(left.Taken) < len(h.Taken)
}

func equal(a, b api.Halves) bool {
	return a.Order == b.Order && slices.Equal(a.Taken, b.Taken)
}

func isZero(h api.Halves) bool {
	return equal(h, api.Halves{})
}

// numbers are those from -2 to n+2 and some that are far away.
func numbers(n int) []int {
	l := []int{math.MinInt, math.MinInt + 1, -1 << 32, 255, 256, 257, 512, 1 << 32, 1 << 62, math.MaxInt - 1, math.MaxInt}
	for i := -2; i <= n+2; i++ {
		l = append(l, i)
	}
	return l
}

// invalidHalves is an allocator with the error that Check has for it.
type invalidHalves struct {
	h api.Halves
	e api.Errno
}

func invalidAllocators() []invalidHalves {
	var l []invalidHalves
	for _, order := range []int{math.MinInt, -1 << 32, -1, 9, 63, 64, 1 << 32, math.MaxInt} {
		l = append(l,
			invalidHalves{api.Halves{Order: order}, api.ErrRange},
			invalidHalves{api.Halves{Order: order, Taken: []api.Room{{At: 0, Long: 1, Used: 1}}}, api.ErrRange},
			invalidHalves{api.Halves{Order: order, Taken: []api.Room{{At: 0, Long: 3, Used: 3}}}, api.ErrRange})
	}
	for _, taken := range [][]api.Room{
		{{}},
		{{At: 0, Long: 0, Used: 1}},
		{{At: 0, Long: 3, Used: 3}},
		{{At: 0, Long: -1, Used: -1}},
		{{At: 0, Long: math.MinInt, Used: 1}},
		{{At: 0, Long: 1 << 62, Used: 1 << 62}},
		{{At: 1, Long: 2, Used: 2}},
		{{At: 2, Long: 4, Used: 4}},
		{{At: -1, Long: 1, Used: 1}},
		{{At: -4, Long: 4, Used: 4}},
		{{At: math.MaxInt, Long: 1, Used: 1}},
		{{At: 1 << 62, Long: 1 << 62, Used: 1 << 62}},
		{{At: 8, Long: 1, Used: 1}},
		{{At: 8, Long: 8, Used: 8}},
		{{At: 0, Long: 16, Used: 16}},
		{{At: 0, Long: 1, Used: 0}},
		{{At: 0, Long: 1, Used: 2}},
		{{At: 0, Long: 2, Used: 1}},
		{{At: 0, Long: 4, Used: 2}},
		{{At: 0, Long: 4, Used: 5}},
		{{At: 0, Long: 4, Used: -4}},
		{{At: 0, Long: 8, Used: 4}},
		{{At: 0, Long: 8, Used: math.MaxInt}},
		{{At: 0, Long: 2, Used: 2}, {At: 0, Long: 2, Used: 2}},
		{{At: 0, Long: 2, Used: 2}, {At: 1, Long: 1, Used: 1}},
		{{At: 4, Long: 1, Used: 1}, {At: 0, Long: 1, Used: 1}},
		{{At: 4, Long: 1, Used: 1}, {At: 4, Long: 4, Used: 4}},
		{{At: 0, Long: 8, Used: 8}, {At: 0, Long: 1, Used: 1}},
		{{At: 0, Long: 4, Used: 4}, {At: 4, Long: 4, Used: 4}, {At: 7, Long: 1, Used: 1}},
	} {
		l = append(l, invalidHalves{api.Halves{Order: 3, Taken: taken}, api.ErrForm})
	}
	return l
}

func TestNewP60(t *testing.T) {
	for order := range 9 {
		if h, e := New(order); !equal(h, api.Halves{Order: order}) || e != api.OK || Check(h) != api.OK {
			t.Errorf("New(%d): %v, error %d", order, h, e)
		}
	}
	for _, order := range []int{math.MinInt, -1 << 32, -1, 9, 63, 64, 256, 1 << 32, math.MaxInt} {
		if h, e := New(order); !isZero(h) || e != api.ErrRange {
			t.Errorf("New(%d): %v, error %d", order, h, e)
		}
	}
}

func TestCheckValidP60(t *testing.T) {
	eachHalves(func(h api.Halves) {
		if e := Check(h); e != api.OK {
			t.Errorf("Check(%v): error %d", h, e)
		}
	})
}

// Each room with numbers around the words of the allocator is valid just if it
// is on the list of rooms, whatever the order.
func TestCheckRoomP60(t *testing.T) {
	for order := range 4 {
		valid := rooms(order)
		for _, at := range numbers(10) {
			for _, long := range numbers(10) {
				for _, used := range numbers(10) {
					r := api.Room{At: at, Long: long, Used: used}
					want := api.ErrForm
					if slices.Contains(valid, r) {
						want = api.OK
					}
					if e := Check(api.Halves{Order: order, Taken: []api.Room{r}}); e != want {
						t.Errorf("order %d, room %v: error %d", order, r, e)
					}
				}
			}
		}
	}
}

// All rooms of the largest allocator, and some that are none.
func TestCheckLargestP60(t *testing.T) {
	for order := range 9 {
		for _, r := range rooms(8) {
			want := api.ErrForm
			if r.At+r.Long <= 1<<order {
				want = api.OK
			}
			if e := Check(api.Halves{Order: order, Taken: []api.Room{r}}); e != want {
				t.Errorf("order %d, room %v: error %d", order, r, e)
			}
		}
	}
	for _, b := range blocks(8) {
		for _, r := range []api.Room{
			{At: b.At, Long: b.Long, Used: b.Long / 2},
			{At: b.At, Long: b.Long, Used: b.Long + 1},
			{At: b.At + 256, Long: b.Long, Used: b.Long},
			{At: b.At - 256, Long: b.Long, Used: b.Long},
			{At: b.At, Long: 3 * b.Long, Used: 3 * b.Long},
		} {
			if e := Check(api.Halves{Order: 8, Taken: []api.Room{r}}); e != api.ErrForm {
				t.Errorf("room %v: error %d", r, e)
			}
		}
		for shift := 1; shift < b.Long; shift++ {
			r := api.Room{At: b.At + shift, Long: b.Long, Used: b.Long}
			if e := Check(api.Halves{Order: 8, Taken: []api.Room{r}}); e != api.ErrForm {
				t.Errorf("room %v: error %d", r, e)
			}
		}
	}
}

// Valid rooms in every order and with every overlap: up to three of them.
func TestCheckOrderP60(t *testing.T) {
	all := rooms(3)
	for _, a := range all {
		for _, b := range all {
			two := api.OK
			if b.At < a.At+a.Long {
				two = api.ErrForm
			}
			if e := Check(api.Halves{Order: 3, Taken: []api.Room{a, b}}); e != two {
				t.Errorf("%v, %v: error %d", a, b, e)
			}
			for _, c := range all {
				three := two
				if c.At < b.At+b.Long {
					three = api.ErrForm
				}
				if e := Check(api.Halves{Order: 3, Taken: []api.Room{a, b, c}}); e != three {
					t.Errorf("%v, %v, %v: error %d", a, b, c, e)
				}
			}
		}
	}
}

// The error of Check comes first, also where others apply.
func TestErrorsOfCheckP60(t *testing.T) {
	for i, c := range invalidAllocators() {
		if e := Check(c.h); e != c.e {
			t.Errorf("%d: Check: error %d", i, e)
		}
		if gaps, e := Gaps(c.h); len(gaps) != 0 || e != c.e {
			t.Errorf("%d: Gaps: %v, error %d", i, gaps, e)
		}
		if n, e := Waste(c.h); n != 0 || e != c.e {
			t.Errorf("%d: Waste: %d, error %d", i, n, e)
		}
		for _, n := range numbers(8) {
			if h, r, e := Take(c.h, n); !isZero(h) || r != (api.Run{}) || e != c.e {
				t.Errorf("%d: Take(%d): %v, %v, error %d", i, n, h, r, e)
			}
			if h, e := Give(c.h, n); !isZero(h) || e != c.e {
				t.Errorf("%d: Give(%d): %v, error %d", i, n, h, e)
			}
		}
	}
}

func TestGapsP61(t *testing.T) {
	eachHalves(func(h api.Halves) {
		if got, e := Gaps(h); !slices.Equal(got, gapsOf(h)) || e != api.OK {
			t.Errorf("Gaps(%v): %v, error %d", h, got, e)
		}
	})
}

func TestGapsExamplesP61(t *testing.T) {
	for _, c := range []struct {
		order int
		taken []api.Room
		want  []api.Run
	}{
		{0, nil, []api.Run{{At: 0, Long: 1}}},
		{0, []api.Room{{At: 0, Long: 1, Used: 1}}, nil},
		{3, nil, []api.Run{{At: 0, Long: 8}}},
		{3, []api.Room{{At: 0, Long: 4, Used: 3}}, []api.Run{{At: 4, Long: 4}}},
		{3, []api.Room{{At: 0, Long: 8, Used: 5}}, nil},
		// Words that are not used are not free.
		{2, []api.Room{{At: 0, Long: 4, Used: 3}}, nil},
		// Adjacent free blocks that are not halves of one block stay two.
		{3, []api.Room{{At: 0, Long: 1, Used: 1}, {At: 7, Long: 1, Used: 1}},
			[]api.Run{{At: 1, Long: 1}, {At: 2, Long: 2}, {At: 4, Long: 2}, {At: 6, Long: 1}}},
		{2, []api.Room{{At: 0, Long: 1, Used: 1}, {At: 3, Long: 1, Used: 1}},
			[]api.Run{{At: 1, Long: 1}, {At: 2, Long: 1}}},
	} {
		h := api.Halves{Order: c.order, Taken: c.taken}
		if got, e := Gaps(h); !slices.Equal(got, c.want) || e != api.OK {
			t.Errorf("Gaps(%v): %v, error %d", h, got, e)
		}
	}
}

// One allocated block in the largest allocator leaves at most a block of each
// size.
func TestGapsOfOneBlockP61(t *testing.T) {
	for order := range 9 {
		for _, r := range rooms(order) {
			h := api.Halves{Order: order, Taken: []api.Room{r}}
			if got, e := Gaps(h); !slices.Equal(got, gapsOf(h)) || e != api.OK {
				t.Fatalf("Gaps(%v): %v, error %d", h, got, e)
			}
		}
	}
}

func TestTakeP62(t *testing.T) {
	eachHalves(func(h api.Halves) {
		for n := 1; n <= 1<<h.Order; n++ {
			block, want := takenBlock(h, n)
			var after api.Halves
			if want == api.OK {
				after = added(h, block, n)
			}
			if got, r, e := Take(h, n); !equal(got, after) || r != block || e != want {
				t.Errorf("Take(%v, %d): %v, %v, error %d", h, n, got, r, e)
			}
		}
		for _, n := range numbers(0) {
			if n >= 1 && n <= 1<<h.Order {
				continue
			}
			if got, r, e := Take(h, n); !isZero(got) || r != (api.Run{}) || e != api.ErrRange {
				t.Errorf("Take(%v, %d): %v, %v, error %d", h, n, got, r, e)
			}
		}
	})
}

func TestTakeExamplesP62(t *testing.T) {
	corners := []api.Room{{At: 0, Long: 1, Used: 1}, {At: 7, Long: 1, Used: 1}, {At: 8, Long: 4, Used: 3}}
	for _, c := range []struct {
		order int
		taken []api.Room
		n     int
		want  api.Run
		e     api.Errno
	}{
		{3, nil, 3, api.Run{At: 0, Long: 4}, api.OK},
		{4, nil, 3, api.Run{At: 0, Long: 4}, api.OK},
		{4, nil, 16, api.Run{At: 0, Long: 16}, api.OK},
		{4, nil, 9, api.Run{At: 0, Long: 16}, api.OK},
		{4, nil, 8, api.Run{At: 0, Long: 8}, api.OK},
		{4, nil, 17, api.Run{}, api.ErrRange},
		{0, nil, 1, api.Run{At: 0, Long: 1}, api.OK},
		{0, nil, 2, api.Run{}, api.ErrRange},
		{0, []api.Room{{At: 0, Long: 1, Used: 1}}, 1, api.Run{}, api.ErrFull},
		{0, []api.Room{{At: 0, Long: 1, Used: 1}}, 2, api.Run{}, api.ErrRange},
		{4, corners, 1, api.Run{At: 1, Long: 1}, api.OK},
		{4, corners, 2, api.Run{At: 2, Long: 2}, api.OK},  // the first of two
		{4, corners, 3, api.Run{At: 12, Long: 4}, api.OK}, // not two adjacent ones
		{4, corners, 5, api.Run{}, api.ErrFull},
		{4, corners, 16, api.Run{}, api.ErrFull},
		{4, corners, 17, api.Run{}, api.ErrRange},
		// A smaller free block is taken, although a larger one is first.
		{3, []api.Room{{At: 4, Long: 1, Used: 1}}, 1, api.Run{At: 5, Long: 1}, api.OK},
		{3, []api.Room{{At: 4, Long: 1, Used: 1}}, 2, api.Run{At: 6, Long: 2}, api.OK},
		{3, []api.Room{{At: 4, Long: 1, Used: 1}}, 3, api.Run{At: 0, Long: 4}, api.OK},
	} {
		h := api.Halves{Order: c.order, Taken: c.taken}
		if _, r, e := Take(h, c.n); r != c.want || e != c.e {
			t.Errorf("Take(%v, %d): %v, error %d", h, c.n, r, e)
		}
	}
}

// Every number of words in a new allocator of each order.
func TestTakeLengthsP62(t *testing.T) {
	for order := range 9 {
		for n := 1; n <= 256; n++ {
			var after api.Halves
			var block api.Run
			want := api.ErrRange
			if n <= 1<<order {
				h := api.Halves{Order: order}
				block, want = takenBlock(h, n)
				after = added(h, block, n)
			}
			if got, r, e := Take(api.Halves{Order: order}, n); !equal(got, after) || r != block || e != want {
				t.Errorf("%d of %d words: %v, %v, error %d", n, 1<<order, got, r, e)
			}
		}
	}
}

func TestGiveP62(t *testing.T) {
	eachHalves(func(h api.Halves) {
		for _, at := range numbers(8) {
			after, found := without(h, at)
			want := api.OK
			if !found {
				after, want = api.Halves{}, api.ErrNone
			}
			if got, e := Give(h, at); !equal(got, after) || e != want {
				t.Errorf("Give(%v, %d): %v, error %d", h, at, got, e)
			}
		}
	})
}

func TestWasteP62(t *testing.T) {
	eachHalves(func(h api.Halves) {
		want := 0
		for _, is := range allocated(h) {
			if is {
				want++
			}
		}
		for _, r := range h.Taken {
			want -= r.Used
		}
		if n, e := Waste(h); n != want || e != api.OK {
			t.Errorf("Waste(%v): %d, error %d", h, n, e)
		}
	})
	for used := 129; used <= 256; used++ {
		h := api.Halves{Order: 8, Taken: []api.Room{{At: 0, Long: 256, Used: used}}}
		if n, e := Waste(h); n != 256-used || e != api.OK {
			t.Errorf("Waste(%v): %d, error %d", h, n, e)
		}
	}
}

// An allocator of each order is filled word by word, and emptied again so that
// the halves become free in different orders.
func TestFillAndEmptyP62(t *testing.T) {
	for order := range 9 {
		for _, factor := range []int{1, 3, 85, 255} {
			h := api.Halves{Order: order}
			for at := range 1 << order {
				after, r, e := Take(h, 1)
				if r != (api.Run{At: at, Long: 1}) || e != api.OK {
					t.Fatal(order, at, r, e)
				}
				h = after
			}
			if _, _, e := Take(h, 1); e != api.ErrFull {
				t.Fatal(order, e)
			}
			for i := range 1 << order {
				after, e := Give(h, i*factor%(1<<order))
				gaps, f := Gaps(after)
				if e != api.OK || f != api.OK || !slices.Equal(gaps, gapsOf(after)) {
					t.Fatal(order, i, e, f, gaps)
				}
				h = after
			}
			if !equal(h, api.Halves{Order: order}) {
				t.Error(order, h)
			}
		}
	}
}

// Long rows of changes in allocators that are too large for all their states
// to be tested. The numbers are those of a simple fixed sequence.
func TestRowsOfChangesP62(t *testing.T) {
	state := uint64(1)
	next := func(n int) int {
		state = state*6364136223846793005 + 1442695040888963407
		return int(state>>33) % n
	}
	for order := 4; order <= 8; order++ {
		h := api.Halves{Order: order}
		for range 1500 {
			var got, want api.Halves
			var e, f api.Errno
			if len(h.Taken) > 0 && next(5) < 2 {
				at := h.Taken[next(len(h.Taken))].At
				want, _ = without(h, at)
				got, e = Give(h, at)
			} else {
				n := 1 + next(1<<next(order+1))
				var block, r api.Run
				if block, f = takenBlock(h, n); f == api.OK {
					want = added(h, block, n)
				}
				if got, r, e = Take(h, n); r != block {
					t.Fatal(h, n, r)
				}
			}
			if !equal(got, want) || e != f {
				t.Fatal(h, got, e)
			}
			if e != api.OK {
				continue
			}
			h = got
			if gaps, e := Gaps(h); !slices.Equal(gaps, gapsOf(h)) || e != api.OK || Check(h) != api.OK {
				t.Fatal(h, gaps, e, Check(h))
			}
		}
	}
}
