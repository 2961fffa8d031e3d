package word

import (
	"math"
	"slices"
	"testing"

	"cairnfield/api"
)

// callAll calls each function with the same numbers and returns the errors.
func callAll(a []uint64, x, y, n int) []api.Errno {
	_, e1 := New(n)
	_, e2 := Load(a, x)
	_, e3 := Store(a, x, 1)
	_, e4 := Move(a, x, y, n)
	_, e5 := Fill(a, x, n, 1)
	_, e6 := Bytes(a)
	return []api.Errno{e1, e2, e3, e4, e5, e6}
}

// A panic in one of these calls fails the test.
func TestNoPanicP1(t *testing.T) {
	for _, words := range []int{0, 1, 3, 256, 257} {
		a := counted(words)
		for _, x := range edges(words) {
			for _, y := range edges(words) {
				for _, n := range edges(words) {
					callAll(a, x, y, n)
				}
			}
		}
	}
}

// Ranges whose end overflows are not valid, however the sum turns out.
func TestOverflowP1(t *testing.T) {
	a := counted(3)
	for _, at := range edges(3) {
		for _, n := range edges(3) {
			b, e := Fill(a, at, n, 1)
			if (e == api.OK) != valid(3, at, n) {
				t.Errorf("Fill(%d, %d): %v, error %d", at, n, b, e)
			}
			b, e = Move(a, at, 0, n)
			if (e == api.OK) != (valid(3, at, n) && valid(3, 0, n)) {
				t.Errorf("Move(%d, 0, %d): %v, error %d", at, n, b, e)
			}
			b, e = Move(a, 0, at, n)
			if (e == api.OK) != (valid(3, at, n) && valid(3, 0, n)) {
				t.Errorf("Move(0, %d, %d): %v, error %d", at, n, b, e)
			}
		}
	}
}

// Valid is what the packages above use for ranges of their own.
func TestValidP1(t *testing.T) {
	for _, words := range []int{0, 1, 3, 256} {
		for _, at := range edges(words) {
			for _, n := range edges(words) {
				if Valid(words, at, n) != valid(words, at, n) {
					t.Errorf("Valid(%d, %d, %d) is %t", words, at, n, Valid(words, at, n))
				}
			}
		}
	}
	for _, words := range []int{-1, math.MinInt} {
		for _, at := range edges(0) {
			for _, n := range edges(0) {
				if Valid(words, at, n) {
					t.Errorf("Valid(%d, %d, %d)", words, at, n)
				}
			}
		}
	}
}

// changers are the functions that return a changed arena, each with arguments
// that are valid for four words.
func changers() []func([]uint64) ([]uint64, api.Errno) {
	return []func([]uint64) ([]uint64, api.Errno){
		func(a []uint64) ([]uint64, api.Errno) { return Store(a, 3, 9) },
		func(a []uint64) ([]uint64, api.Errno) { return Move(a, 0, 1, 3) },
		func(a []uint64) ([]uint64, api.Errno) { return Move(a, 1, 0, 3) },
		func(a []uint64) ([]uint64, api.Errno) { return Move(a, 0, 0, 0) },
		func(a []uint64) ([]uint64, api.Errno) { return Fill(a, 0, 4, 9) },
		func(a []uint64) ([]uint64, api.Errno) { return Fill(a, 4, 0, 9) },
	}
}

func TestArgumentsUnchangedP2(t *testing.T) {
	for i, change := range changers() {
		whole := counted(8)
		a := whole[:4]
		b, e := change(a)
		if e != api.OK || !slices.Equal(whole, counted(8)) {
			t.Errorf("%d: error %d, argument %v", i, e, whole)
		}
		b = b[:cap(b)]
		for k := range b {
			b[k] = 77
		}
		if !slices.Equal(whole, counted(8)) {
			t.Errorf("%d: the result shares memory with the argument", i)
		}
	}
	a := counted(8)
	s, _ := Bytes(a[:4])
	a[0] = 0
	if want, _ := Bytes(counted(4)); s != want || !slices.Equal(a[1:], counted(8)[1:]) {
		t.Error("Bytes keeps or changes its argument")
	}
}

func TestResultsAreNewP2(t *testing.T) {
	for i, change := range changers() {
		a := counted(4)
		b, _ := change(a)
		want := slices.Clone(b)
		clear(a)
		c, _ := change(counted(4))
		clear(c)
		if !slices.Equal(b, want) {
			t.Errorf("%d: the result changes with other memory", i)
		}
	}
	a, _ := New(4)
	a[0] = 5
	if b, e := New(4); !slices.Equal(b, make([]uint64, 4)) || e != api.OK {
		t.Error("New shares memory between calls", b, e)
	}
	w, _ := Words("abcdefgh")
	w[0] = 0
	if v, e := Words("abcdefgh"); !slices.Equal(v, []uint64{0x6867666564636261}) || e != api.OK {
		t.Error("Words shares memory between calls", v, e)
	}
}

func TestNilIsEmptyP3(t *testing.T) {
	for _, x := range edges(0) {
		for _, n := range edges(0) {
			if !slices.Equal(callAll(nil, x, 0, n), callAll([]uint64{}, x, 0, n)) {
				t.Errorf("nil and empty differ for %d, %d", x, n)
			}
		}
	}
}

// An error changes nothing, not even the words that the call could reach.
func TestErrorChangesNothingP3(t *testing.T) {
	a := counted(4)
	callAll(a, 2, 0, 3)
	callAll(a, 0, 2, 3)
	callAll(a, 0, 0, math.MaxInt)
	if !slices.Equal(a, counted(4)) {
		t.Error(a)
	}
}

// Bytes that are not valid UTF-8 are bytes like all others.
func TestStringsAreBytesP4(t *testing.T) {
	s := make([]byte, 256)
	for i := range s {
		s[i] = byte(i)
	}
	a, e := Words(string(s))
	if len(a) != 32 || e != api.OK {
		t.Fatal(len(a), e)
	}
	for i := range s {
		if got := byte(a[i/8] >> (8 * (i % 8))); got != byte(i) {
			t.Errorf("byte %d is %d", i, got)
		}
	}
	if back, e := Bytes(a); back != string(s) || e != api.OK {
		t.Errorf("%q, error %d", back, e)
	}
}

// Increasing is what the packages above use for lists of their own.
func TestIncreasingP4(t *testing.T) {
	for _, c := range []struct {
		l    []int
		want bool
	}{
		{nil, true},
		{[]int{}, true},
		{[]int{5}, true},
		{[]int{-1}, true},
		{[]int{0, 1}, true},
		{[]int{0, 0}, false},
		{[]int{1, 0}, false},
		{[]int{0, 2, 255}, true},
		{[]int{0, 2, 2}, false},
		{[]int{2, 2, 3}, false},
		{[]int{0, 2, 1}, false},
		{[]int{1, 3, 2, 4}, false},
		{[]int{math.MinInt, 0, math.MaxInt}, true},
		{[]int{math.MinInt, math.MaxInt}, true},
		{[]int{math.MaxInt, math.MinInt}, false},
		{[]int{math.MaxInt, math.MaxInt}, false},
		{[]int{0, 1, 0}[:2], true},
	} {
		if got := Increasing(c.l); got != c.want {
			t.Errorf("Increasing(%v) is %t", c.l, got)
		}
	}
}
