package hand

import (
	"math"
	"slices"
	"testing"

	"cairnfield/api"
)

// numbers are those around the bounds of words, slots and generations, and
// some that are far away.
func numbers() []int {
	return []int{math.MinInt, math.MinInt + 1, -1 << 32, -65536, -256, -2, -1, 0, 1, 2, 15, 16, 17, 254, 255, 256, 257,
		65534, 65535, 65536, 65537, 1 << 32, 1<<32 + 1, math.MaxInt - 1, math.MaxInt}
}

// names are those of slots with small numbers and with generations around the
// bounds, and numbers that name nothing.
func names() []uint64 {
	some := []uint64{math.MaxUint64, 1 << 63, 1 << 32, 1<<32 + 1, 1<<32 + 65536, 1<<48 + 65536}
	for _, gen := range []uint64{0, 1, 2, 65534, 65535, 65536} {
		for _, slot := range []uint64{0, 1, 2, 15, 16, 65535} {
			some = append(some, gen*65536+slot)
		}
	}
	return some
}

// open is an open slot, and shut is one that is not.
func open(gen, at int) api.Slot { return api.Slot{Gen: gen, Open: true, At: at} }
func shut(gen int) api.Slot     { return api.Slot{Gen: gen} }

// row has n slots alike.
func row(n int, slot api.Slot) api.Hands {
	return slices.Repeat(api.Hands{slot}, n)
}

// eachSlots calls check with all handles of up to n slots of some.
func eachSlots(some api.Hands, n int, check func(h api.Hands)) {
	var extend func(h api.Hands)
	extend = func(h api.Hands) {
		check(h)
		if len(h) == n {
			return
		}
		for _, slot := range some {
			extend(append(slices.Clone(h), slot))
		}
	}
	extend(nil)
}

// eachHands calls check with all handles of up to two slots of many, and up to
// three of fewer, valid and not.
func eachHands(check func(h api.Hands)) {
	var some api.Hands
	for _, gen := range []int{-1, 0, 1, 65534, 65535, 65536} {
		for _, at := range []int{-1, 0, 1, 255, 256} {
			some = append(some, api.Slot{Gen: gen, At: at}, open(gen, at))
		}
	}
	eachSlots(some, 2, check)
	eachSlots(api.Hands{shut(0), shut(1), shut(65535), open(1, 0), open(1, 7), open(2, 9), open(65535, 255), open(0, 0)}, 3, check)
}

// checkError is the error of Check as P90 lists it.
func checkError(h api.Hands) api.Errno {
	if len(h) > 16 {
		return api.ErrLarge
	}
	for _, slot := range h {
		switch {
		case slot.Gen < 0, slot.Gen > 65535, slot.At < 0, slot.At > 255:
			return api.ErrRange
		case slot.Open && slot.Gen == 0, !slot.Open && slot.At != 0:
			return api.ErrForm
		}
	}
	return api.OK
}

// answer is what one of the functions returns; each of them returns a part.
type answer struct {
	h     api.Hands
	name  uint64
	at    int
	names []uint64
	e     api.Errno
}

func (a answer) equals(b answer) bool {
	return slices.Equal(a.h, b.h) && a.name == b.name && a.at == b.at && slices.Equal(a.names, b.names) && a.e == b.e
}

func opened(h api.Hands, at int) answer {
	after, name, e := Open(h, at)
	return answer{h: after, name: name, e: e}
}

func looked(h api.Hands, name uint64) answer {
	at, e := Look(h, name)
	return answer{at: at, e: e}
}

func closed(h api.Hands, name uint64) answer {
	after, e := Close(h, name)
	return answer{h: after, e: e}
}

func swapped(h api.Hands, to []int) answer {
	after, e := Swap(h, to)
	return answer{h: after, e: e}
}

func live(h api.Hands) answer {
	l, e := Live(h)
	return answer{names: l, e: e}
}

// wantOpened follows P91.
func wantOpened(h api.Hands, at int) answer {
	if e := checkError(h); e != api.OK {
		return answer{e: e}
	}
	if at < 0 || at > 255 {
		return answer{e: api.ErrRange}
	}
	after := append(api.Hands{}, h...)
	for i := range after {
		if after[i].Open || after[i].Gen == 65535 {
			continue
		}
		after[i].Open, after[i].At = true, at
		after[i].Gen++
		return answer{h: after, name: uint64(i + 65536*after[i].Gen)}
	}
	return answer{e: api.ErrFull}
}

// slotOf takes a name apart.
func slotOf(h api.Hands, name uint64) (int, api.Errno) {
	if e := checkError(h); e != api.OK {
		return 0, e
	}
	number, gen := name%65536, name/65536
	if number >= uint64(len(h)) || !h[number].Open || uint64(h[number].Gen) != gen {
		return 0, api.ErrStale
	}
	return int(number), api.OK
}

// wantLooked follows P91.
func wantLooked(h api.Hands, name uint64) answer {
	i, e := slotOf(h, name)
	if e != api.OK {
		return answer{e: e}
	}
	return answer{at: h[i].At}
}

// wantClosed follows P91.
func wantClosed(h api.Hands, name uint64) answer {
	i, e := slotOf(h, name)
	if e != api.OK {
		return answer{e: e}
	}
	after := append(api.Hands{}, h...)
	after[i].Open, after[i].At = false, 0
	return answer{h: after}
}

// wantLive follows P91.
func wantLive(h api.Hands) answer {
	a := answer{e: checkError(h)}
	for i := range h {
		if a.e == api.OK && h[i].Open {
			a.names = append(a.names, uint64(i+65536*h[i].Gen))
		}
	}
	return a
}

// wantSwapped follows P92.
func wantSwapped(h api.Hands, to []int) answer {
	if e := checkError(h); e != api.OK {
		return answer{e: e}
	}
	if len(to) != 256 {
		return answer{e: api.ErrForm}
	}
	if slices.Min(to) < 0 || slices.Max(to) > 255 {
		return answer{e: api.ErrRange}
	}
	after := append(api.Hands{}, h...)
	for i := range after {
		if after[i].Open {
			after[i].At = to[after[i].At]
		}
	}
	return answer{h: after}
}

// identity is the table that maps every word to itself.
func identity() []int {
	to := make([]int, 256)
	for i := range to {
		to[i] = i
	}
	return to
}

// reversed is the table that maps the last word to the first one.
func reversed() []int {
	to := identity()
	slices.Reverse(to)
	return to
}

// tables are some that are valid and some that are not.
func tables() [][]int {
	low, high := reversed(), reversed()
	low[77], high[78] = -1, 256
	return [][]int{identity(), reversed(), make([]int, 256), low, high, nil, make([]int, 1), identity()[:255],
		append(identity(), 0), append(low, 0), high[:100]}
}

// same reports a result that differs from what P90 to P92 require.
func same(t *testing.T, what string, h api.Hands, argument any, got, want answer) {
	t.Helper()
	if !got.equals(want) {
		t.Errorf("%s(%v, %v): %v, not %v", what, h, argument, got, want)
	}
}

func TestNewP90(t *testing.T) {
	for n := range 17 {
		h, e := New(n)
		if e != api.OK || !slices.Equal(h, row(n, api.Slot{})) || Check(h) != api.OK {
			t.Errorf("New(%d): %v, error %d", n, h, e)
		}
	}
	for _, n := range numbers() {
		h, e := New(n)
		if valid := n >= 0 && n <= 16; valid != (e == api.OK) || !valid && (e != api.ErrRange || len(h) != 0) {
			t.Errorf("New(%d): %v, error %d", n, h, e)
		}
	}
}

func TestCheckP90(t *testing.T) {
	eachHands(func(h api.Hands) {
		if e, want := Check(h), checkError(h); e != want {
			t.Errorf("Check(%v): error %d, not %d", h, e, want)
		}
	})
}

func TestCheckBoundsP90(t *testing.T) {
	for i, c := range []struct {
		h    api.Hands
		want api.Errno
	}{
		{nil, api.OK},
		{row(16, shut(0)), api.OK},
		{row(16, shut(65535)), api.OK},
		{row(16, open(1, 0)), api.OK},
		{row(16, open(65535, 255)), api.OK},
		{row(17, shut(0)), api.ErrLarge},
		{row(17, open(1, 0)), api.ErrLarge},
		{row(100000, shut(0)), api.ErrLarge},
		{api.Hands{shut(-1)}, api.ErrRange},
		{api.Hands{shut(65536)}, api.ErrRange},
		{api.Hands{shut(1 << 32)}, api.ErrRange},
		{api.Hands{open(-1, 0)}, api.ErrRange},
		{api.Hands{open(65536, 0)}, api.ErrRange},
		{api.Hands{open(1, -1)}, api.ErrRange},
		{api.Hands{open(1, 256)}, api.ErrRange},
		{api.Hands{open(1, 1<<32)}, api.ErrRange},
		{api.Hands{open(0, 0)}, api.ErrForm},
		{api.Hands{open(0, 255)}, api.ErrForm},
		{api.Hands{{Gen: 0, At: 1}}, api.ErrForm},
		{api.Hands{{Gen: 1, At: 255}}, api.ErrForm},
		{api.Hands{{Gen: 65535, At: 1}}, api.ErrForm},
	} {
		if e := Check(c.h); e != c.want {
			t.Errorf("%d: error %d, not %d", i, e, c.want)
		}
	}
}

// Too many slots come before what is wrong with one, a wrong number in a slot
// before its form, and the first wrong slot before the others.
func TestCheckOrderP90(t *testing.T) {
	for i, c := range []struct {
		h    api.Hands
		want api.Errno
	}{
		{row(17, shut(-1)), api.ErrLarge},
		{row(17, open(0, 0)), api.ErrLarge},
		{append(row(16, shut(0)), open(1, 256)), api.ErrLarge},
		{api.Hands{open(0, 256)}, api.ErrRange},
		{api.Hands{open(0, -1)}, api.ErrRange},
		{api.Hands{{At: 256}}, api.ErrRange},
		{api.Hands{{At: -1}}, api.ErrRange},
		{api.Hands{{Gen: 65536, At: 1}}, api.ErrRange},
		{api.Hands{open(0, 0), shut(-1)}, api.ErrForm},
		{api.Hands{shut(-1), open(0, 0)}, api.ErrRange},
		{api.Hands{{At: 1}, open(1, 256)}, api.ErrForm},
		{api.Hands{open(1, 256), {At: 1}}, api.ErrRange},
		{api.Hands{shut(3), {Gen: 3, At: 3}, shut(65536)}, api.ErrForm},
	} {
		if e := Check(c.h); e != c.want {
			t.Errorf("%d: error %d, not %d", i, e, c.want)
		}
	}
}

// A wrong slot is found wherever it is.
func TestCheckEverySlotP90(t *testing.T) {
	for i := range 16 {
		for _, v := range numbers() {
			for _, slot := range []api.Slot{shut(v), open(v, 5), open(5, v), {Gen: 5, At: v}} {
				h := row(16, open(7, 8))
				h[i] = slot
				if e, want := Check(h), checkError(h); e != want {
					t.Errorf("slot %d is %v: error %d, not %d", i, slot, e, want)
				}
			}
		}
	}
}

// All functions with all small handles, valid and not.
func TestAllP91(t *testing.T) {
	some := []uint64{0, 1, 2, 65536, 65537, 65538, 131072, 131073, 65534 << 16, 65535 << 16, 65535<<16 + 1, 1 << 32, 1<<32 + 65536}
	eachHands(func(h api.Hands) {
		for _, at := range []int{-1, 0, 1, 255, 256} {
			same(t, "Open", h, at, opened(h, at), wantOpened(h, at))
		}
		for _, name := range some {
			same(t, "Look", h, name, looked(h, name), wantLooked(h, name))
			same(t, "Close", h, name, closed(h, name), wantClosed(h, name))
		}
		same(t, "Live", h, nil, live(h), wantLive(h))
	})
}

func TestBoundsP91(t *testing.T) {
	for _, h := range []api.Hands{nil, row(1, shut(0)), row(16, shut(0)), row(16, shut(65535)), row(16, open(1, 0)),
		row(16, open(65535, 255)), append(row(15, open(9, 9)), shut(65534)), append(row(15, shut(65535)), open(2, 1)),
		row(17, shut(0))} {
		for _, at := range numbers() {
			same(t, "Open", h, at, opened(h, at), wantOpened(h, at))
		}
		for _, name := range names() {
			same(t, "Look", h, name, looked(h, name), wantLooked(h, name))
			same(t, "Close", h, name, closed(h, name), wantClosed(h, name))
		}
		same(t, "Live", h, nil, live(h), wantLive(h))
	}
}

func TestOpenP91(t *testing.T) {
	for i, c := range []struct {
		h    api.Hands
		at   int
		want answer
	}{
		{row(1, shut(0)), 0, answer{h: api.Hands{open(1, 0)}, name: 65536}},
		{row(1, shut(0)), 255, answer{h: api.Hands{open(1, 255)}, name: 65536}},
		{row(2, shut(5)), 3, answer{h: api.Hands{open(6, 3), shut(5)}, name: 6 * 65536}},
		{api.Hands{open(1, 9), shut(0)}, 9, answer{h: api.Hands{open(1, 9), open(1, 9)}, name: 65537}},
		{api.Hands{shut(65535), shut(65534)}, 4, answer{h: api.Hands{shut(65535), open(65535, 4)}, name: 4294901761}},
		{api.Hands{shut(65534), shut(0)}, 4, answer{h: api.Hands{open(65535, 4), shut(0)}, name: 4294901760}},
		{api.Hands{open(65535, 1), shut(65535), shut(7), shut(0)}, 2,
			answer{h: api.Hands{open(65535, 1), shut(65535), open(8, 2), shut(0)}, name: 8*65536 + 2}},
		{nil, 0, answer{e: api.ErrFull}},
		{row(16, open(1, 0)), 0, answer{e: api.ErrFull}},
		{row(16, shut(65535)), 0, answer{e: api.ErrFull}},
		{api.Hands{open(65535, 1), shut(65535)}, 0, answer{e: api.ErrFull}},
		{nil, -1, answer{e: api.ErrRange}},
		{row(16, open(1, 0)), 256, answer{e: api.ErrRange}},
		{row(1, shut(0)), 256, answer{e: api.ErrRange}},
		{row(17, shut(0)), 256, answer{e: api.ErrLarge}},
		{row(1, open(0, 0)), 256, answer{e: api.ErrForm}},
		{row(1, shut(65536)), 0, answer{e: api.ErrRange}},
	} {
		if got := opened(c.h, c.at); !got.equals(c.want) {
			t.Errorf("%d: %v, not %v", i, got, c.want)
		}
	}
}

// A name with one wrong bit is not the name of a slot, or it is that of
// another one.
func TestEveryBitOfNameP91(t *testing.T) {
	for _, h := range []api.Hands{{open(1, 7)}, {open(65535, 7)}, row(16, open(5, 7)), append(row(15, shut(5)), open(5, 7))} {
		l, _ := Live(h)
		for _, name := range l {
			same(t, "Look", h, name, looked(h, name), answer{at: 7})
			for bit := range 64 {
				other := name ^ 1<<bit
				want := answer{e: api.ErrStale}
				if slices.Contains(l, other) {
					want = answer{at: 7}
				}
				same(t, "Look", h, other, looked(h, other), want)
				same(t, "Close", h, other, closed(h, other), wantClosed(h, other))
			}
		}
	}
}

// A slot that is not open has no name, whatever its generation is.
func TestClosedHasNoNameP91(t *testing.T) {
	for _, gen := range []int{0, 1, 2, 65534, 65535} {
		h := row(16, shut(gen))
		for i := range 16 {
			name := uint64(gen*65536 + i)
			same(t, "Look", h, name, looked(h, name), answer{e: api.ErrStale})
			same(t, "Close", h, name, closed(h, name), answer{e: api.ErrStale})
		}
		same(t, "Live", h, nil, live(h), answer{})
	}
}

func TestLiveP91(t *testing.T) {
	for i, c := range []struct {
		h    api.Hands
		want []uint64
	}{
		{nil, nil},
		{row(16, shut(0)), nil},
		{api.Hands{open(1, 0)}, []uint64{65536}},
		{api.Hands{open(9, 0), open(1, 0)}, []uint64{9 * 65536, 65537}},
		{api.Hands{shut(4), open(65535, 3), shut(65535), open(2, 3)}, []uint64{4294901761, 131075}},
	} {
		if got, e := Live(c.h); !slices.Equal(got, c.want) || e != api.OK {
			t.Errorf("%d: %v, error %d, not %v", i, got, e, c.want)
		}
	}
}

// The example of the chapter, and that of the document.
func TestExampleP91(t *testing.T) {
	h, _ := New(3)
	h, first, e := Open(h, 5)
	if first != 65536 || e != api.OK {
		t.Error(first, e)
	}
	h, e = Close(h, first)
	if !slices.Equal(h, api.Hands{shut(1), shut(0), shut(0)}) || e != api.OK {
		t.Error(h, e)
	}
	h, second, e := Open(h, 6)
	if second != 131072 || e != api.OK {
		t.Error(second, e)
	}
	same(t, "Look", h, first, looked(h, first), answer{e: api.ErrStale})
	same(t, "Close", h, first, closed(h, first), answer{e: api.ErrStale})
	same(t, "Look", h, second, looked(h, second), answer{at: 6})
}

// A slot has a new name each time, until it is retired: no name is given
// twice, and all of them are stale in the end.
func TestWholeLifeP91(t *testing.T) {
	h, _ := New(1)
	for gen := 1; gen <= 65535; gen++ {
		after, name, e := Open(h, gen%256)
		if name != uint64(gen)*65536 || e != api.OK {
			t.Fatal(gen, name, e)
		}
		if at, e := Look(after, name); at != gen%256 || e != api.OK {
			t.Fatal(gen, at, e)
		}
		if _, e := Look(after, name-65536); e != api.ErrStale {
			t.Fatal(gen, e)
		}
		if h, e = Close(after, name); e != api.OK {
			t.Fatal(gen, e)
		}
	}
	if !slices.Equal(h, api.Hands{shut(65535)}) {
		t.Error(h)
	}
	same(t, "Open", h, 0, opened(h, 0), answer{e: api.ErrFull})
	for gen := range uint64(65537) {
		if _, e := Look(h, gen*65536); e != api.ErrStale {
			t.Fatal(gen, e)
		}
	}
}

// A long row of calls, in which slots are opened and closed in another order
// and some are retired. A closed name is never valid again.
func TestManyCallsP91(t *testing.T) {
	h := row(6, shut(65400))
	words := map[uint64]int{}
	given := map[uint64]bool{}
	seen := map[api.Errno]int{}
	for i := range 5000 {
		if i*i%7 < 3 {
			got := opened(h, i%256)
			same(t, "Open", h, i%256, got, wantOpened(h, i%256))
			seen[got.e]++
			if got.e == api.OK {
				if given[got.name] {
					t.Fatal("a name is given twice:", got.name)
				}
				h, words[got.name], given[got.name] = got.h, i%256, true
			}
		} else if l, _ := Live(h); len(l) > 0 {
			name := l[i%len(l)]
			got := closed(h, name)
			same(t, "Close", h, name, got, wantClosed(h, name))
			h = got.h
			delete(words, name)
		}
		for name := range given {
			at, there := words[name]
			if got, e := Look(h, name); got != at || there != (e == api.OK) || !there && e != api.ErrStale {
				t.Fatalf("%d: Look(%v, %d): %d, error %d", i, h, name, got, e)
			}
		}
	}
	if len(given) != 6*135 || len(words) != 0 || seen[api.ErrFull] < 100 {
		t.Error("not all slots are retired:", len(given), words, seen)
	}
}

// Swap of all small handles, valid and not.
func TestAllP92(t *testing.T) {
	all := tables()
	eachHands(func(h api.Hands) {
		for _, to := range all {
			same(t, "Swap", h, to, swapped(h, to), wantSwapped(h, to))
		}
	})
}

func TestSwapP92(t *testing.T) {
	to := identity()
	to[3], to[4], to[0] = 4, 3, 9
	h := api.Hands{open(1, 3), shut(2), open(65535, 4), open(7, 0), open(1, 255), open(2, 3), shut(65535)}
	want := api.Hands{open(1, 4), shut(2), open(65535, 3), open(7, 9), open(1, 255), open(2, 4), shut(65535)}
	same(t, "Swap", h, to, swapped(h, to), answer{h: want})
	same(t, "Swap", nil, to, swapped(nil, to), answer{})
	for at := range 256 {
		h := api.Hands{open(8, at)}
		same(t, "Swap", h, reversed(), swapped(h, reversed()), answer{h: api.Hands{open(8, 255-at)}})
	}
}

// The names of slots are the same after a Swap.
func TestSwapKeepsNamesP92(t *testing.T) {
	h := api.Hands{open(1, 3), shut(2), open(65535, 4)}
	after, _ := Swap(h, reversed())
	same(t, "Live", after, nil, live(after), wantLive(h))
	same(t, "Look", after, uint64(65536), looked(after, 65536), answer{at: 252})
}

// A number in the table is checked even if no open slot has its word, and the
// number of elements comes first.
func TestSwapErrorsP92(t *testing.T) {
	for k := range 256 {
		for _, v := range numbers() {
			to := identity()
			to[k] = v
			for _, h := range []api.Hands{nil, {open(1, 3)}, {shut(0)}, {open(1, k)}} {
				same(t, "Swap", h, to, swapped(h, to), wantSwapped(h, to))
			}
		}
	}
	for _, n := range []int{0, 1, 16, 255, 257, 512, 100000} {
		for _, v := range []int{0, -1, 256} {
			to := slices.Repeat([]int{v}, n)
			same(t, "Swap", nil, n, swapped(nil, to), answer{e: api.ErrForm})
			same(t, "Swap", nil, n, swapped(row(16, open(1, 255)), to), answer{e: api.ErrForm})
		}
	}
}
