package spot

import (
	"math"
	"slices"
	"testing"

	"cairnfield/api"
)

// sizes are numbers of words around those where a further word of marks
// begins.
func sizes() []int {
	return []int{0, 1, 2, 5, 63, 64, 65, 70, 127, 128, 129, 191, 192, 193, 255, 256}
}

// pack makes marks from one bool a word, bit by bit as P20 defines them.
func pack(on []bool) []uint64 {
	var m []uint64
	for k, is := range on {
		if k%64 == 0 {
			m = append(m, 0)
		}
		if is {
			m[k/64] |= 1 << (k % 64)
		}
	}
	return m
}

// patterns are marks of n words: none, all, every other one, every third one,
// the ends only, and long stretches that cross words of marks.
func patterns(n int) [][]bool {
	rules := []func(k int) bool{
		func(k int) bool { return false },
		func(k int) bool { return true },
		func(k int) bool { return k%2 == 0 },
		func(k int) bool { return k%3 == 1 },
		func(k int) bool { return k == 0 || k == n-1 },
		func(k int) bool { return k/50%2 == 1 },
		func(k int) bool { return k*k%7 < 3 },
	}
	var all [][]bool
	for _, rule := range rules {
		on := make([]bool, n)
		for k := range on {
			on[k] = rule(k)
		}
		all = append(all, on)
	}
	return all
}

// edges are the numbers around the bounds of n words, around a multiple of 64,
// and those whose sums overflow.
func edges(n int) []int {
	return []int{math.MinInt, math.MinInt + 1, -65, -64, -1, 0, 1, 62, 63, 64, 65, n - 1, n, n + 1,
		api.MaxWords, api.MaxWords + 1, math.MaxInt - n, math.MaxInt - 1, math.MaxInt}
}

// valid follows the definition of a range, without the sum that may overflow.
func valid(n, at, long int) bool {
	return at >= 0 && at <= n && long >= 0 && long <= n && at <= n-long
}

// starts are the numbers at which an empty range may start.
func starts(n int) []int {
	var all []int
	for at := range n + 1 {
		all = append(all, at)
	}
	return all
}

// New is not in the document, but what it returns are marks as P20 says.
func TestNewP20(t *testing.T) {
	for n := range api.MaxWords + 1 {
		m, e := New(n)
		if want := pack(make([]bool, n)); !slices.Equal(m, want) || e != api.OK {
			t.Errorf("New(%d): %v, error %d", n, m, e)
		}
		m = m[:cap(m)]
		for i := range m {
			m[i] = 77
		}
		if again, _ := New(n); Check(again, n) != api.OK {
			t.Errorf("New(%d): results share memory", n)
		}
	}
	for _, n := range []int{math.MinInt, -64, -1, api.MaxWords + 1, 320, math.MaxInt} {
		if m, e := New(n); len(m) != 0 || e != api.ErrRange {
			t.Errorf("New(%d): %v, error %d", n, m, e)
		}
	}
}

func TestCheckP20(t *testing.T) {
	for n := range api.MaxWords + 1 {
		for _, on := range patterns(n) {
			if e := Check(pack(on), n); e != api.OK {
				t.Errorf("marks of %d words: error %d", n, e)
			}
		}
	}
}

func TestCheckSizeP20(t *testing.T) {
	for _, n := range []int{-1, -64, api.MaxWords + 1, 320, math.MinInt, math.MaxInt} {
		for long := range 7 {
			if e := Check(make([]uint64, long), n); e != api.ErrRange {
				t.Errorf("%d words of marks for %d words: error %d", long, n, e)
			}
		}
	}
	for n := range api.MaxWords + 1 {
		for long := range 7 {
			want := api.ErrForm
			if long == len(pack(make([]bool, n))) {
				want = api.OK
			}
			if e := Check(make([]uint64, long), n); e != want {
				t.Errorf("%d words of marks for %d words: error %d", long, n, e)
			}
		}
	}
}

// Each single bit is allowed if it belongs to a word, and only then.
func TestCheckStrayBitsP20(t *testing.T) {
	for _, n := range sizes() {
		m := pack(make([]bool, n))
		for k := range 64 * len(m) {
			want := api.OK
			if k >= n {
				want = api.ErrForm
			}
			m[k/64] = 1 << (k % 64)
			if e := Check(m, n); e != want {
				t.Errorf("bit %d in marks of %d words: error %d", k, n, e)
			}
			m[k/64] = 0
		}
	}
}

// The error of the marks comes before that of the range.
func TestCheckComesFirstP20(t *testing.T) {
	for _, c := range []struct {
		m    []uint64
		n    int
		want api.Errno
	}{
		{nil, -1, api.ErrRange},
		{nil, 257, api.ErrRange},
		{make([]uint64, 5), 257, api.ErrRange},
		{nil, 1, api.ErrForm},
		{[]uint64{0}, 0, api.ErrForm},
		{[]uint64{0, 0}, 64, api.ErrForm},
		{[]uint64{0}, 65, api.ErrForm},
		{[]uint64{1 << 5}, 5, api.ErrForm},
		{[]uint64{1 << 63}, 63, api.ErrForm},
		{[]uint64{0, 1 << 6}, 70, api.ErrForm},
	} {
		for _, at := range edges(5) {
			for _, long := range []int{math.MinInt, -1, 0, 1, 6, math.MaxInt} {
				for i, e := range callAll(t, c.m, c.n, at, long) {
					if e != c.want {
						t.Errorf("function %d, marks %v for %d words, range %d, %d: error %d", i, c.m, c.n, at, long, e)
					}
				}
			}
		}
	}
}

// eachRange calls check with ranges around the bounds of all sizes, and with
// every range of a few words and of some that cross a word of marks.
func eachRange(check func(on []bool, at, long int)) {
	for _, n := range sizes() {
		numbers := edges(n)
		if n <= 5 || n == 65 || n == 129 {
			numbers = append(numbers, starts(n)...)
		}
		for _, on := range patterns(n) {
			for _, at := range numbers {
				for _, long := range numbers {
					check(on, at, long)
				}
			}
		}
	}
}

func TestSetP20(t *testing.T) {
	eachRange(func(on []bool, at, long int) { checkSet(t, on, at, long) })
}

func checkSet(t *testing.T, on []bool, at, long int) {
	t.Helper()
	n := len(on)
	for _, to := range []bool{false, true} {
		got, e := Set(pack(on), n, at, long, to)
		if !valid(n, at, long) {
			if len(got) != 0 || e != api.ErrRange {
				t.Errorf("Set(%d words, %d, %d, %t): %v, error %d", n, at, long, to, got, e)
			}
			continue
		}
		want := slices.Clone(on)
		for i := range long {
			want[at+i] = to
		}
		if !slices.Equal(got, pack(want)) || e != api.OK {
			t.Errorf("Set(%d words, %d, %d, %t): %v, error %d", n, at, long, to, got, e)
		}
	}
}

func TestHasP20(t *testing.T) {
	for _, n := range sizes() {
		for _, on := range patterns(n) {
			m := pack(on)
			for at := range n {
				if is, e := Has(m, n, at); is != on[at] || e != api.OK {
					t.Errorf("Has(%d words, %d): %t, error %d", n, at, is, e)
				}
			}
			for _, at := range edges(n) {
				if is, e := Has(m, n, at); (at < 0 || at >= n) && (is || e != api.ErrRange) {
					t.Errorf("Has(%d words, %d): %t, error %d", n, at, is, e)
				}
			}
		}
	}
}

func TestNextP21(t *testing.T) {
	for _, n := range sizes() {
		for _, on := range patterns(n) {
			m := pack(on)
			for at := range n + 1 {
				for _, to := range []bool{false, true} {
					want := n
					if k := slices.Index(on[at:], to); k >= 0 {
						want = at + k
					}
					k, is, e := Next(m, n, at, to)
					if k != want || is != (want < n) || e != api.OK {
						t.Errorf("Next(%d words, %d, %t): %d, %t, error %d", n, at, to, k, is, e)
					}
				}
			}
		}
	}
}

func TestNextOutsideP21(t *testing.T) {
	for _, n := range sizes() {
		for _, on := range patterns(n) {
			for _, at := range edges(n) {
				if at >= 0 && at <= n {
					continue
				}
				for _, to := range []bool{false, true} {
					if k, is, e := Next(pack(on), n, at, to); k != 0 || is || e != api.ErrRange {
						t.Errorf("Next(%d words, %d, %t): %d, %t, error %d", n, at, to, k, is, e)
					}
				}
			}
		}
	}
}

func TestCountP21(t *testing.T) {
	eachRange(func(on []bool, at, long int) { checkCount(t, on, at, long) })
}

func checkCount(t *testing.T, on []bool, at, long int) {
	t.Helper()
	n := len(on)
	want, wantError := 0, api.OK
	if valid(n, at, long) {
		for _, is := range on[at : at+long] {
			if is {
				want++
			}
		}
	} else {
		wantError = api.ErrRange
	}
	if count, e := Count(pack(on), n, at, long); count != want || e != wantError {
		t.Errorf("Count(%d words, %d, %d): %d, error %d", n, at, long, count, e)
	}
}

func TestRunsExamplesP21(t *testing.T) {
	for _, c := range []struct {
		m    []uint64
		n    int
		want []api.Run
	}{
		{[]uint64{1<<1 | 1<<2 | 1<<4}, 5, []api.Run{{At: 1, Long: 2}, {At: 4, Long: 1}}},
		{[]uint64{1 << 63, 3}, 66, []api.Run{{At: 63, Long: 3}}},
		{[]uint64{1 << 63, 3}, 128, []api.Run{{At: 63, Long: 3}}},
		{nil, 0, nil},
		{[]uint64{0}, 64, nil},
		{[]uint64{1}, 1, []api.Run{{At: 0, Long: 1}}},
		{[]uint64{math.MaxUint64, math.MaxUint64, math.MaxUint64, math.MaxUint64}, 256, []api.Run{{At: 0, Long: 256}}},
		{[]uint64{1, 1}, 65, []api.Run{{At: 0, Long: 1}, {At: 64, Long: 1}}},
	} {
		if runs, e := Runs(c.m, c.n); !slices.Equal(runs, c.want) || e != api.OK {
			t.Errorf("Runs(%v, %d): %v, error %d", c.m, c.n, runs, e)
		}
	}
}

// The runs are in order, are not empty, do not touch each other, and cover the
// words whose marks are set.
func TestRunsP21(t *testing.T) {
	for n := range api.MaxWords + 1 {
		for _, on := range patterns(n) {
			runs, e := Runs(pack(on), n)
			if e != api.OK {
				t.Errorf("%d words: error %d", n, e)
			}
			covered := make([]bool, n)
			end := -1
			for _, run := range runs {
				if run.At <= end || run.Long < 1 || run.Long > n-run.At {
					t.Fatalf("%d words: run %v after %d", n, run, end)
				}
				for i := range run.Long {
					covered[run.At+i] = true
				}
				end = run.At + run.Long
			}
			if !slices.Equal(covered, on) {
				t.Errorf("%d words: runs %v", n, runs)
			}
		}
	}
}
