package word

import (
	"math"
	"slices"
	"strings"
	"testing"

	"cairnfield/api"
)

// counted is an arena of n words that all differ, and whose bytes differ, too.
func counted(n int) []uint64 {
	a := make([]uint64, n)
	for i := range a {
		a[i] = uint64(i+1) * 0x0123456789abcdef
	}
	return a
}

// edges are the numbers around the bounds of an arena of n words, and those
// whose sums overflow.
func edges(n int) []int {
	return []int{math.MinInt, math.MinInt + 1, -257, -1, 0, 1, n - 1, n, n + 1,
		api.MaxWords, api.MaxWords + 1, math.MaxInt - n, math.MaxInt - 1, math.MaxInt}
}

// valid follows the definition of a range word by word.
func valid(words, at, n int) bool {
	if n < 0 || at < 0 || at > words || n > words {
		return false
	}
	for i := range n {
		if at+i >= words {
			return false
		}
	}
	return true
}

func TestNewP10(t *testing.T) {
	for _, n := range []int{0, 1, 2, 255, 256} {
		a, e := New(n)
		if e != api.OK || len(a) != n {
			t.Errorf("New(%d): %d words, error %d", n, len(a), e)
		}
		for i, v := range a {
			if v != 0 {
				t.Errorf("New(%d): word %d is %d", n, i, v)
			}
		}
	}
	for _, n := range []int{-1, 257, 1 << 32, math.MinInt, math.MaxInt} {
		if a, e := New(n); len(a) != 0 || e != api.ErrRange {
			t.Errorf("New(%d): %d words, error %d", n, len(a), e)
		}
	}
}

func TestLoadAndStoreP10(t *testing.T) {
	for _, n := range []int{1, 5, 256} {
		a := counted(n)
		for at := range n {
			if v, e := Load(a, at); v != a[at] || e != api.OK {
				t.Errorf("Load of word %d of %d: %d, error %d", at, n, v, e)
			}
			want := slices.Clone(a)
			want[at] = math.MaxUint64
			if b, e := Store(a, at, math.MaxUint64); !slices.Equal(b, want) || e != api.OK {
				t.Errorf("Store of word %d of %d: %v, error %d", at, n, b, e)
			}
		}
	}
}

func TestLoadAndStoreOutsideP10(t *testing.T) {
	for _, n := range []int{0, 1, 5, 256} {
		a := counted(n)
		for _, at := range edges(n) {
			if at >= 0 && at < n {
				continue
			}
			if v, e := Load(a, at); v != 0 || e != api.ErrRange {
				t.Errorf("Load of word %d of %d: %d, error %d", at, n, v, e)
			}
			if b, e := Store(a, at, 1); len(b) != 0 || e != api.ErrRange {
				t.Errorf("Store of word %d of %d: %v, error %d", at, n, b, e)
			}
		}
	}
}

// Bounds of slices follow the length: words in the capacity do not exist.
func TestCapacityHasNoWordsP10(t *testing.T) {
	a := counted(9)[:5]
	if v, e := Load(a, 5); v != 0 || e != api.ErrRange {
		t.Error(v, e)
	}
	if b, e := Store(a, 5, 1); len(b) != 0 || e != api.ErrRange {
		t.Error(b, e)
	}
	if b, e := Move(a, 5, 0, 1); len(b) != 0 || e != api.ErrRange {
		t.Error(b, e)
	}
	if b, e := Fill(a, 4, 2, 1); len(b) != 0 || e != api.ErrRange {
		t.Error(b, e)
	}
}

// The size of the arena is checked before anything else.
func TestTooManyWordsP10(t *testing.T) {
	for _, n := range []int{257, 1000} {
		a := counted(n)
		for _, at := range []int{-1, 0, 256, n, math.MinInt, math.MaxInt} {
			if v, e := Load(a, at); v != 0 || e != api.ErrLarge {
				t.Errorf("Load of word %d of %d: %d, error %d", at, n, v, e)
			}
			if b, e := Store(a, at, 1); len(b) != 0 || e != api.ErrLarge {
				t.Errorf("Store of word %d of %d: error %d", at, n, e)
			}
			if b, e := Move(a, at, 0, 1); len(b) != 0 || e != api.ErrLarge {
				t.Errorf("Move from word %d of %d: error %d", at, n, e)
			}
			if b, e := Fill(a, at, 1, 1); len(b) != 0 || e != api.ErrLarge {
				t.Errorf("Fill of word %d of %d: error %d", at, n, e)
			}
		}
		if s, e := Bytes(a); s != "" || e != api.ErrLarge {
			t.Errorf("Bytes of %d words: %d bytes, error %d", n, len(s), e)
		}
	}
}

func TestMoveExampleP11(t *testing.T) {
	if b, e := Move([]uint64{1, 2, 3}, 0, 1, 2); !slices.Equal(b, []uint64{1, 1, 2}) || e != api.OK {
		t.Error(b, e)
	}
	if b, e := Move([]uint64{1, 2, 3, 4}, 0, 1, 3); !slices.Equal(b, []uint64{1, 1, 2, 3}) || e != api.OK {
		t.Error(b, e)
	}
	if b, e := Move([]uint64{1, 2, 3, 4}, 1, 0, 3); !slices.Equal(b, []uint64{2, 3, 4, 4}) || e != api.OK {
		t.Error(b, e)
	}
}

// Every range of small arenas, valid or not, with every overlap.
func TestMoveP11(t *testing.T) {
	for words := range 6 {
		a := counted(words)
		for from := -1; from <= words+1; from++ {
			for to := -1; to <= words+1; to++ {
				for n := -1; n <= words+1; n++ {
					checkMove(t, a, from, to, n)
				}
			}
		}
	}
}

func checkMove(t *testing.T, a []uint64, from, to, n int) {
	t.Helper()
	b, e := Move(a, from, to, n)
	if !valid(len(a), from, n) || !valid(len(a), to, n) {
		if len(b) != 0 || e != api.ErrRange {
			t.Errorf("Move(%d words, %d, %d, %d): %v, error %d", len(a), from, to, n, b, e)
		}
		return
	}
	want := slices.Clone(a)
	for i := range n {
		want[to+i] = a[from+i]
	}
	if !slices.Equal(b, want) || e != api.OK {
		t.Errorf("Move(%d words, %d, %d, %d): %v, error %d", len(a), from, to, n, b, e)
	}
}

func TestFillP11(t *testing.T) {
	for words := range 8 {
		a := counted(words)
		for at := -1; at <= words+1; at++ {
			for n := -1; n <= words+1; n++ {
				checkFill(t, a, at, n)
			}
		}
	}
}

func checkFill(t *testing.T, a []uint64, at, n int) {
	t.Helper()
	b, e := Fill(a, at, n, 7)
	if !valid(len(a), at, n) {
		if len(b) != 0 || e != api.ErrRange {
			t.Errorf("Fill(%d words, %d, %d): %v, error %d", len(a), at, n, b, e)
		}
		return
	}
	want := slices.Clone(a)
	for i := range n {
		want[at+i] = 7
	}
	if !slices.Equal(b, want) || e != api.OK {
		t.Errorf("Fill(%d words, %d, %d): %v, error %d", len(a), at, n, b, e)
	}
}

func TestWholeArenaP11(t *testing.T) {
	a := counted(256)
	if b, e := Move(a, 0, 1, 255); len(b) != 256 || b[0] != a[0] || !slices.Equal(b[1:], a[:255]) || e != api.OK {
		t.Error(e)
	}
	if b, e := Move(a, 0, 0, 256); !slices.Equal(b, a) || e != api.OK {
		t.Error(e)
	}
	if b, e := Move(a, 256, 256, 0); !slices.Equal(b, a) || e != api.OK {
		t.Error(e)
	}
	if b, e := Fill(a, 0, 256, 0); !slices.Equal(b, make([]uint64, 256)) || e != api.OK {
		t.Error(e)
	}
	if b, e := Move(nil, 0, 0, 0); len(b) != 0 || e != api.OK {
		t.Error(b, e)
	}
	if b, e := Fill(nil, 0, 0, 1); len(b) != 0 || e != api.OK {
		t.Error(b, e)
	}
}

func TestBytesP12(t *testing.T) {
	for _, c := range []struct {
		a []uint64
		s string
	}{
		{nil, ""},
		{[]uint64{0}, "\x00\x00\x00\x00\x00\x00\x00\x00"},
		{[]uint64{0x0102030405060708}, "\x08\x07\x06\x05\x04\x03\x02\x01"},
		{[]uint64{math.MaxUint64, 1}, "\xff\xff\xff\xff\xff\xff\xff\xff\x01\x00\x00\x00\x00\x00\x00\x00"},
		{[]uint64{1 << 63, 0x80}, "\x00\x00\x00\x00\x00\x00\x00\x80\x80\x00\x00\x00\x00\x00\x00\x00"},
	} {
		if s, e := Bytes(c.a); s != c.s || e != api.OK {
			t.Errorf("Bytes(%v): %q, error %d", c.a, s, e)
		}
		if a, e := Words(c.s); !slices.Equal(a, c.a) || e != api.OK {
			t.Errorf("Words(%q): %v, error %d", c.s, a, e)
		}
	}
}

func TestWordsInvertsBytesP12(t *testing.T) {
	for n := range api.MaxWords + 1 {
		a := counted(n)
		s, e := Bytes(a)
		if len(s) != 8*n || e != api.OK {
			t.Errorf("Bytes of %d words: %d bytes, error %d", n, len(s), e)
		}
		if b, e := Words(s); !slices.Equal(b, a) || e != api.OK {
			t.Errorf("Words of %d bytes: error %d", len(s), e)
		}
	}
}

func TestWordsErrorsP12(t *testing.T) {
	for n := range 2200 {
		want := api.OK
		switch {
		case n > 2048:
			want = api.ErrLarge
		case n%8 != 0:
			want = api.ErrForm
		}
		a, e := Words(strings.Repeat("z", n))
		if e != want || e == api.OK && len(a) != n/8 || e != api.OK && len(a) != 0 {
			t.Errorf("Words of %d bytes: %d words, error %d", n, len(a), e)
		}
	}
}
