package root

import (
	"math"
	"slices"
	"testing"

	"cairnfield/api"
)

// lists are all lists of up to long numbers that are each from low to high.
func lists(long, low, high int) [][]int {
	all := [][]int{nil}
	last := all
	for range long {
		var longer [][]int
		for _, l := range last {
			for v := low; v <= high; v++ {
				longer = append(longer, append(slices.Clone(l), v))
			}
		}
		all = append(all, longer...)
		last = longer
	}
	return all
}

// eachRoots calls check with all roots of up to three slots and with some of
// them invalid, for heaps of up to three words and for impossible ones.
func eachRoots(check func(r []int, n int)) {
	for n := -1; n <= 3; n++ {
		for _, r := range lists(3, -2, 4) {
			check(r, n)
		}
	}
	for _, r := range lists(2, -2, 1) {
		check(r, api.MaxWords)
		check(r, api.MaxWords+1)
	}
}

// numbers are those around the bounds of n words, and some that are far away.
func numbers(n int) []int {
	return []int{math.MinInt, math.MinInt + 1, -1 << 32, -257, -256, -3, -2, -1, 0, 1, 2, 31, 32, 33, n - 1, n, n + 1,
		255, 256, 257, 1 << 32, 1<<32 - 1, math.MaxInt - 1, math.MaxInt}
}

// allowed reports whether a slot may contain v, which it looks for among the
// numbers that P70 allows.
func allowed(v, n int) bool {
	for k := range n {
		if k == v {
			return true
		}
	}
	return v == -1
}

// checkError is the error of Check as P70 lists it.
func checkError(r []int, n int) api.Errno {
	switch {
	case n < 0 || n > 256:
		return api.ErrRange
	case len(r) > 32:
		return api.ErrLarge
	}
	for _, v := range r {
		if !allowed(v, n) {
			return api.ErrRange
		}
	}
	return api.OK
}

// setError is the error of Set as P70 lists it.
func setError(r []int, n, slot, v int) api.Errno {
	if e := checkError(r, n); e != api.OK {
		return e
	}
	if slot < 0 || slot > len(r)-1 {
		return api.ErrNone
	}
	if !allowed(v, n) {
		return api.ErrRange
	}
	return api.OK
}

// swapError is the error of Swap as P71 lists it.
func swapError(r []int, n int, to []int) api.Errno {
	if e := checkError(r, n); e != api.OK {
		return e
	}
	if len(to) != n {
		return api.ErrForm
	}
	for _, v := range to {
		if !allowed(v, n) {
			return api.ErrRange
		}
	}
	return api.OK
}

// namedOf asks of each word whether it is in a slot.
func namedOf(r []int, n int) []int {
	var l []int
	for k := range n {
		if slices.Contains(r, k) {
			l = append(l, k)
		}
	}
	return l
}

// swapped follows P71 for valid arguments, slot by slot.
func swapped(r []int, to []int) []int {
	var l []int
	for _, k := range r {
		if k == -1 {
			l = append(l, -1)
		} else {
			l = append(l, to[k])
		}
	}
	return l
}

// filled is a list of long numbers that are all v.
func filled(long, v int) []int {
	return slices.Repeat([]int{v}, long)
}

func TestCheckP70(t *testing.T) {
	eachRoots(func(r []int, n int) {
		if e, want := Check(r, n), checkError(r, n); e != want {
			t.Errorf("Check(%v, %d): error %d, not %d", r, n, e, want)
		}
	})
}

func TestCheckBoundsP70(t *testing.T) {
	for _, c := range []struct {
		r    []int
		n    int
		want api.Errno
	}{
		{nil, 0, api.OK},
		{nil, 256, api.OK},
		{nil, -1, api.ErrRange},
		{nil, 257, api.ErrRange},
		{nil, math.MinInt, api.ErrRange},
		{nil, math.MaxInt, api.ErrRange},
		{filled(32, -1), 0, api.OK},
		{filled(32, 255), 256, api.OK},
		{filled(33, -1), 0, api.ErrLarge},
		{filled(33, 0), 1, api.ErrLarge},
		{filled(100000, -1), 256, api.ErrLarge},
		{[]int{0}, 0, api.ErrRange},
		{[]int{256}, 256, api.ErrRange},
		{[]int{-2}, 256, api.ErrRange},
		{[]int{1 << 32}, 256, api.ErrRange},
		{[]int{math.MinInt}, 256, api.ErrRange},
		{[]int{math.MaxInt}, 256, api.ErrRange},
	} {
		if e := Check(c.r, c.n); e != c.want {
			t.Errorf("Check of %d slots, %d words: error %d, not %d", len(c.r), c.n, e, c.want)
		}
	}
}

// A heap that is impossible comes before too many slots, and these before a
// slot that is out of range.
func TestCheckOrderP70(t *testing.T) {
	for _, v := range []int{-2, -1, 0, 5} {
		for _, n := range []int{-1, 257} {
			if e := Check(filled(33, v), n); e != api.ErrRange {
				t.Errorf("33 slots with %d, %d words: error %d", v, n, e)
			}
		}
		if e := Check(filled(33, v), 0); e != api.ErrLarge {
			t.Errorf("33 slots with %d: error %d", v, e)
		}
	}
}

// A wrong slot is found wherever it is.
func TestCheckEverySlotP70(t *testing.T) {
	for slot := range api.MaxRoots {
		for _, v := range numbers(7) {
			r := filled(api.MaxRoots, 6)
			r[slot] = v
			want := api.OK
			if !allowed(v, 7) {
				want = api.ErrRange
			}
			if e := Check(r, 7); e != want {
				t.Errorf("%d in slot %d: error %d", v, slot, e)
			}
		}
	}
}

func TestSetP70(t *testing.T) {
	eachRoots(func(r []int, n int) {
		for slot := -2; slot <= len(r)+1; slot++ {
			for v := -3; v <= n+1; v++ {
				wantError := setError(r, n, slot, v)
				var want []int
				if wantError == api.OK {
					want = slices.Concat(r[:slot], []int{v}, r[slot+1:])
				}
				if got, e := Set(r, n, slot, v); !slices.Equal(got, want) || e != wantError {
					t.Errorf("Set(%v, %d, %d, %d): %v, error %d, not %v, %d", r, n, slot, v, got, e, want, wantError)
				}
			}
		}
	})
}

func TestSetBoundsP70(t *testing.T) {
	r := filled(api.MaxRoots, -1)
	for _, n := range []int{0, 1, 255, 256} {
		for _, slot := range numbers(n) {
			for _, v := range numbers(n) {
				got, e := Set(r, n, slot, v)
				if want := setError(r, n, slot, v); e != want || e != api.OK && len(got) != 0 {
					t.Errorf("Set(%d words, %d, %d): %v, error %d, not %d", n, slot, v, got, e, want)
				}
				if e == api.OK && (got[slot] != v || len(got) != api.MaxRoots) {
					t.Errorf("Set(%d words, %d, %d): %v", n, slot, v, got)
				}
			}
		}
	}
}

// The error of Check comes before those of the slot and of v, and the slot
// before v.
func TestSetOrderP70(t *testing.T) {
	for _, c := range []struct {
		r          []int
		n, slot, v int
		want       api.Errno
	}{
		{nil, 257, 0, 0, api.ErrRange},
		{filled(33, 0), 1, 40, 9, api.ErrLarge},
		{filled(33, 0), 1, 32, 0, api.ErrLarge},
		{[]int{7}, 4, 9, 0, api.ErrRange},
		{[]int{7}, 4, 0, 0, api.ErrRange}, // even if the wrong slot is the one to set
		{[]int{3}, 4, 1, 9, api.ErrNone},
		{[]int{3}, 4, -1, -2, api.ErrNone},
		{nil, 4, 0, 0, api.ErrNone},
		{[]int{-1}, 0, 0, 0, api.ErrRange},
		{[]int{-1}, 0, 0, -1, api.OK},
	} {
		if _, e := Set(c.r, c.n, c.slot, c.v); e != c.want {
			t.Errorf("Set of %d slots, %d, %d, %d: error %d, not %d", len(c.r), c.n, c.slot, c.v, e, c.want)
		}
	}
}

func TestNamedP70(t *testing.T) {
	eachRoots(func(r []int, n int) {
		wantError := checkError(r, n)
		var want []int
		if wantError == api.OK {
			want = namedOf(r, n)
		}
		if got, e := Named(r, n); !slices.Equal(got, want) || e != wantError {
			t.Errorf("Named(%v, %d): %v, error %d, not %v, %d", r, n, got, e, want, wantError)
		}
	})
}

func TestNamedExamplesP70(t *testing.T) {
	scattered := make([]int, api.MaxRoots)
	for i := range scattered {
		scattered[i] = i * 77 % 256
	}
	for _, c := range []struct {
		r    []int
		n    int
		want []int
	}{
		{[]int{4, -1, 2, 4}, 5, []int{2, 4}},
		{nil, 5, nil},
		{filled(32, -1), 256, nil},
		{filled(32, 255), 256, []int{255}},
		{[]int{0, -1, 0}, 1, []int{0}},
		{[]int{3, 1, 3, 1, 3}, 4, []int{1, 3}},
		{[]int{255, 100, 20, 3, 0}, 256, []int{0, 3, 20, 100, 255}},
		{scattered, 256, namedOf(scattered, 256)},
	} {
		if got, e := Named(c.r, c.n); !slices.Equal(got, c.want) || e != api.OK {
			t.Errorf("Named(%v, %d): %v, error %d", c.r, c.n, got, e)
		}
	}
	if len(namedOf(scattered, 256)) != api.MaxRoots {
		t.Error("the scattered roots are not all different")
	}
}

func TestNamedErrorsP70(t *testing.T) {
	for _, c := range []struct {
		r    []int
		n    int
		want api.Errno
	}{
		{[]int{2}, 257, api.ErrRange},
		{filled(33, 0), 1, api.ErrLarge},
		{[]int{2, 5}, 5, api.ErrRange},
		{[]int{2, -2}, 5, api.ErrRange},
	} {
		if got, e := Named(c.r, c.n); len(got) != 0 || e != c.want {
			t.Errorf("Named of %d slots, %d words: %v, error %d", len(c.r), c.n, got, e)
		}
	}
}

func TestSwapP71(t *testing.T) {
	eachRoots(func(r []int, n int) {
		if n > 3 {
			return
		}
		for _, to := range lists(min(n+1, 3), -2, n) {
			wantError := swapError(r, n, to)
			var want []int
			if wantError == api.OK {
				want = swapped(r, to)
			}
			if got, e := Swap(r, n, to); !slices.Equal(got, want) || e != wantError {
				t.Errorf("Swap(%v, %d, %v): %v, error %d, not %v, %d", r, n, to, got, e, want, wantError)
			}
		}
	})
}

func TestSwapExamplesP71(t *testing.T) {
	back := make([]int, api.MaxWords)
	for k := range back {
		back[k] = api.MaxWords - 1 - k
	}
	for _, c := range []struct {
		r, to, want []int
	}{
		{nil, nil, nil},
		{[]int{-1, -1}, nil, []int{-1, -1}},
		{[]int{-1}, []int{0}, []int{-1}},
		{[]int{-1, 0}, []int{1, 0}, []int{-1, 1}},
		{[]int{0, 1, 2}, []int{1, 2, 0}, []int{1, 2, 0}}, // each word once, not again
		{[]int{2, 2, 0}, []int{0, 1, 1}, []int{1, 1, 0}},
		{[]int{0, 1}, []int{-1, 1}, []int{-1, 1}}, // a word becomes null
		{[]int{0, 255, 100, -1}, back, []int{255, 0, 155, -1}},
		{filled(32, 255), back, filled(32, 0)},
	} {
		if got, e := Swap(c.r, len(c.to), c.to); !slices.Equal(got, c.want) || e != api.OK {
			t.Errorf("Swap(%v, %v): %v, error %d", c.r, c.to, got, e)
		}
	}
}

func TestSwapErrorsP71(t *testing.T) {
	late := filled(256, 0)
	late[255] = 256
	for i, c := range []struct {
		r    []int
		n    int
		to   []int
		want api.Errno
	}{
		{nil, -1, nil, api.ErrRange},
		{nil, 257, filled(257, 0), api.ErrRange},
		{filled(33, 0), 2, nil, api.ErrLarge},
		{filled(33, 0), 2, []int{5, 5}, api.ErrLarge},
		{[]int{2}, 2, []int{0}, api.ErrRange},
		{[]int{1}, 2, []int{0}, api.ErrForm},
		{[]int{1}, 2, nil, api.ErrForm},
		{[]int{1}, 2, []int{0, 0, 0}, api.ErrForm},
		{[]int{1}, 2, []int{9, -9, 0}, api.ErrForm},
		{nil, 0, []int{-1}, api.ErrForm},
		{nil, 1, filled(100000, 0), api.ErrForm},
		{nil, 2, []int{0, 2}, api.ErrRange}, // of a word that is in no slot
		{[]int{-1}, 2, []int{-2, 0}, api.ErrRange},
		{[]int{0}, 2, []int{0, math.MaxInt}, api.ErrRange},
		{[]int{0}, 2, []int{0, math.MinInt}, api.ErrRange},
		{[]int{0}, 2, []int{1 << 32, 0}, api.ErrRange},
		{[]int{0}, 256, late, api.ErrRange},
	} {
		if got, e := Swap(c.r, c.n, c.to); len(got) != 0 || e != c.want {
			t.Errorf("%d: %v, error %d, not %d", i, got, e, c.want)
		}
	}
}

// A number in the table is checked even if no slot contains its word.
func TestSwapEveryWordP71(t *testing.T) {
	for k := range 7 {
		for _, v := range numbers(7) {
			to := filled(7, 6)
			to[k] = v
			r := []int{k, -1, 6 - k}
			want := swapError(r, 7, to)
			got, e := Swap(r, 7, to)
			if e != want || e == api.OK && !slices.Equal(got, swapped(r, to)) {
				t.Errorf("word %d to %d: %v, error %d", k, v, got, e)
			}
			if _, e := Swap(nil, 7, to); e != want {
				t.Errorf("word %d to %d, no roots: error %d", k, v, e)
			}
		}
	}
}
