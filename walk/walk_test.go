package walk

import (
	"math"
	"slices"
	"testing"

	"cairnfield/api"
)

const (
	free   = 1 << 48
	tagged = 5 << 32
	body   = 1 << 16
)

// eachArena calls check with all short arenas of words that are headers,
// references, both or neither.
func eachArena(check func(a []uint64)) {
	some := []uint64{0, 1, 2, 3, 5, body, free, free + body, tagged, tagged + body + 1, free + 1, math.MaxUint64}
	level := [][]uint64{nil}
	for range 5 {
		var next [][]uint64
		for _, a := range level {
			check(a)
			for _, v := range some {
				next = append(next, append(slices.Clone(a), v))
			}
		}
		level = next
	}
}

// eachList calls check with all short lists of some descriptions, valid and
// invalid ones.
func eachList(check func(l []api.Object)) {
	some := []api.Object{
		{}, {Tag: 65535}, {Body: []uint64{7, 8}}, {Refs: []int{0}}, {Refs: []int{1}}, {Refs: []int{2}},
		{Refs: []int{-1, 3}, Body: []uint64{9}}, {Refs: []int{-2}}, {Free: true}, {Free: true, Body: []uint64{6}},
		{Tag: -1}, {Tag: 65536, Free: true}, {Tag: 1, Free: true}, {Refs: []int{-1}, Free: true},
		{Body: make([]uint64, 256)}, {Body: make([]uint64, 257)},
	}
	check(nil)
	for _, o := range some {
		check([]api.Object{o})
		for _, p := range some {
			check([]api.Object{o, p})
			for _, q := range some {
				check([]api.Object{o, p, q})
			}
		}
	}
}

// spotsOf takes the objects apart from the front, field by field.
func spotsOf(a []uint64, at int) ([]api.Spot, api.Errno) {
	if len(a) == 0 {
		return nil, api.OK
	}
	h := api.Head{Refs: int(a[0] % 65536), Body: int(a[0] / 65536 % 65536), Tag: int(a[0] >> 32 % 65536), Free: a[0]>>48 != 0}
	if a[0]>>48 > 1 || h.Free && (h.Refs != 0 || h.Tag != 0) || 1+h.Refs+h.Body > len(a) {
		return nil, api.ErrForm
	}
	more, e := spotsOf(a[1+h.Refs+h.Body:], at+1+h.Refs+h.Body)
	if e != api.OK {
		return nil, e
	}
	return append([]api.Spot{{At: at, Head: h}}, more...), api.OK
}

// indexOf looks for the object to which a word refers.
func indexOf(spots []api.Spot, v uint64) (int, bool) {
	if v == 0 {
		return -1, true
	}
	for i, s := range spots {
		if uint64(s.At) == v-1 && !s.Head.Free {
			return i, true
		}
	}
	return 0, false
}

func objectsOf(a []uint64) ([]api.Object, api.Errno) {
	spots, e := spotsOf(a, 0)
	if e != api.OK {
		return nil, e
	}
	var l []api.Object
	for _, s := range spots {
		o := api.Object{Tag: s.Head.Tag, Free: s.Head.Free}
		for k := range s.Head.Refs {
			i, is := indexOf(spots, a[s.At+1+k])
			if !is {
				return nil, api.ErrNone
			}
			o.Refs = append(o.Refs, i)
		}
		for k := range s.Head.Body {
			o.Body = append(o.Body, a[s.At+1+s.Head.Refs+k])
		}
		l = append(l, o)
	}
	return l, api.OK
}

func same(o, p api.Object) bool {
	return o.Tag == p.Tag && o.Free == p.Free && slices.Equal(o.Refs, p.Refs) && slices.Equal(o.Body, p.Body)
}

func headError(o api.Object) api.Errno {
	switch {
	case len(o.Refs) > 256, len(o.Body) > 256, o.Tag < 0, o.Tag > 65535:
		return api.ErrRange
	case o.Free && (len(o.Refs) > 0 || o.Tag > 0):
		return api.ErrForm
	case 1+len(o.Refs)+len(o.Body) > 256:
		return api.ErrLarge
	}
	return api.OK
}

// layError follows the list of errors of P41, each in a pass of its own.
func layError(l []api.Object, n int) api.Errno {
	if n < 0 || n > 256 {
		return api.ErrRange
	}
	sum := 0
	for _, o := range l {
		if e := headError(o); e != api.OK {
			return e
		}
		sum += 1 + len(o.Refs) + len(o.Body)
	}
	if sum > n {
		return api.ErrFull
	}
	for _, o := range l {
		for _, i := range o.Refs {
			if i < -1 || i >= len(l) || i >= 0 && l[i].Free {
				return api.ErrNone
			}
		}
	}
	return api.OK
}

// laid writes the objects word by word, the references last.
func laid(l []api.Object, n int) []uint64 {
	a := make([]uint64, n)
	at := make([]int, len(l)+1)
	for i, o := range l {
		a[at[i]] = uint64(len(o.Refs)) + body*uint64(len(o.Body)) + 1<<32*uint64(o.Tag)
		if o.Free {
			a[at[i]] += free
		}
		at[i+1] = at[i] + 1 + len(o.Refs)
		for _, v := range o.Body {
			a[at[i+1]] = v
			at[i+1]++
		}
	}
	for i, o := range l {
		for k, to := range o.Refs {
			if to >= 0 {
				a[at[i]+1+k] = uint64(at[to] + 1)
			}
		}
	}
	if end := at[len(l)]; end < n {
		a[end] = free + body*uint64(n-end-1)
	}
	return a
}

func TestSpotsP40(t *testing.T) {
	eachArena(func(a []uint64) {
		want, wantError := spotsOf(a, 0)
		if got, e := Spots(a); !slices.Equal(got, want) || e != wantError {
			t.Errorf("Spots(%v): %+v, error %d", a, got, e)
		}
	})
}

func TestCheckP40(t *testing.T) {
	eachArena(func(a []uint64) {
		_, want := objectsOf(a)
		if e := Check(a); e != want {
			t.Errorf("Check(%v): error %d, not %d", a, e, want)
		}
	})
}

// An object of each length, in arenas that end before it, with it and behind
// it. Each word behind it is an object without references and data words.
func TestSpotsEndP40(t *testing.T) {
	for long := 1; long <= api.MaxWords; long++ {
		size := uint64(long - 1)
		for _, v := range []uint64{size, size * body, free + size*body} {
			for n := 1; n <= api.MaxWords; n++ {
				a := make([]uint64, n)
				a[0] = v
				objects, want := 1+n-long, api.OK
				if long > n {
					objects, want = 0, api.ErrForm
				}
				if spots, e := Spots(a); len(spots) != objects || e != want {
					t.Fatalf("%d words of %d: %d objects, error %d", long, n, len(spots), e)
				}
			}
		}
	}
}

func TestSpotsErrorsP40(t *testing.T) {
	large := make([]uint64, 257)
	bad := slices.Clone(large)
	bad[0] = math.MaxUint64
	whole := make([]uint64, 256)
	last := slices.Clone(whole)
	last[255] = 1
	for _, c := range []struct {
		a            []uint64
		spots, check api.Errno
	}{
		{nil, api.OK, api.OK},
		{whole, api.OK, api.OK},
		{large, api.ErrLarge, api.ErrLarge},
		{bad, api.ErrLarge, api.ErrLarge},
		{last, api.ErrForm, api.ErrForm},
		{[]uint64{1, 9, math.MaxUint64}, api.ErrForm, api.ErrForm},
		{[]uint64{256}, api.ErrForm, api.ErrForm},
		{[]uint64{256 * body}, api.ErrForm, api.ErrForm},
		{[]uint64{free + 1, 0}, api.ErrForm, api.ErrForm},
		{[]uint64{1 << 49}, api.ErrForm, api.ErrForm},
	} {
		if _, e := Spots(c.a); e != c.spots {
			t.Errorf("Spots(%v): error %d", c.a, e)
		}
		if e := Check(c.a); e != c.check {
			t.Errorf("Check(%v): error %d", c.a, e)
		}
	}
}

func TestCheckReferencesP40(t *testing.T) {
	for _, c := range []struct {
		a    []uint64
		want api.Errno
	}{
		{[]uint64{1, 0}, api.OK},
		{[]uint64{1, 1}, api.OK},                // to itself
		{[]uint64{1, 3, 0}, api.OK},             // to the last word
		{[]uint64{0, 1, 1}, api.OK},             // backwards, to word 0
		{[]uint64{1, 2}, api.ErrNone},           // to a reference word
		{[]uint64{1 + body, 3, 0}, api.ErrNone}, // to a data word that looks like a header
		{[]uint64{1, 3}, api.ErrNone},           // to the end
		{[]uint64{1, 4, 0}, api.ErrNone},        // behind the end
		{[]uint64{1, 3, free}, api.ErrNone},     // to a free object
		{[]uint64{2, 0, 5, 0}, api.ErrNone},     // the second one
		{[]uint64{1, 0, 1, 7}, api.ErrNone},     // of the second object
		{[]uint64{1, 1 << 32}, api.ErrNone},
		{[]uint64{1, 1 << 63}, api.ErrNone},
		{[]uint64{1, 1<<63 + 1}, api.ErrNone},
		{[]uint64{1, math.MaxUint64}, api.ErrNone},
		{[]uint64{free + body, 77}, api.OK}, // data words are no references
		{[]uint64{body, 77}, api.OK},
	} {
		if e := Check(c.a); e != c.want {
			t.Errorf("Check(%v): error %d, not %d", c.a, e, c.want)
		}
	}
}

func TestLayP41(t *testing.T) {
	sizes := []int{math.MinInt, -1, 0, 1, 2, 3, 4, 5, 6, 7, 8, 9, 20, 256, 257, math.MaxInt}
	eachList(func(l []api.Object) {
		for _, n := range sizes {
			wantError := layError(l, n)
			var want []uint64
			if wantError == api.OK {
				want = laid(l, n)
			}
			if got, e := Lay(l, n); !slices.Equal(got, want) || e != wantError {
				t.Errorf("Lay(%v, %d): %v, error %d, not %v, %d", l, n, got, e, want, wantError)
			}
		}
	})
}

func TestLayExamplesP41(t *testing.T) {
	for _, c := range []struct {
		l    []api.Object
		n    int
		want []uint64
	}{
		{nil, 0, nil},
		{nil, 1, []uint64{free}},
		{nil, 3, []uint64{free + 2*body, 0, 0}},
		{[]api.Object{{Refs: []int{1}}, {}}, 3, []uint64{1, 3, 0}},
		{[]api.Object{{Refs: []int{1}}, {}}, 4, []uint64{1, 3, 0, free}},
		{[]api.Object{{Refs: []int{1}}, {}}, 5, []uint64{1, 3, 0, free + body, 0}},
		{[]api.Object{{Free: true, Body: []uint64{4}}, {Refs: []int{1, -1}, Body: []uint64{8}}}, 6,
			[]uint64{free + body, 4, 2 + body, 3, 0, 8}},
	} {
		if got, e := Lay(c.l, c.n); !slices.Equal(got, c.want) || e != api.OK {
			t.Errorf("Lay(%v, %d): %v, error %d", c.l, c.n, got, e)
		}
	}
}

func TestLayErrorsP41(t *testing.T) {
	full := make([]api.Object, 256)
	late := append(make([]api.Object, 300), api.Object{Tag: -1})
	for i, c := range []struct {
		l    []api.Object
		n    int
		want api.Errno
	}{
		{full, 256, api.OK},
		{[]api.Object{{Refs: make([]int, 255)}}, 256, api.OK},
		{[]api.Object{{Body: make([]uint64, 255)}}, 256, api.OK},
		{full, 255, api.ErrFull},
		{append(slices.Clone(full), api.Object{}), 256, api.ErrFull},
		{[]api.Object{{Free: true}}, 0, api.ErrFull},
		{late, 256, api.ErrRange},
		{late, 0, api.ErrRange},
		{[]api.Object{{Tag: 1, Free: true}, {Tag: -1}}, 257, api.ErrRange},
		{[]api.Object{{Tag: 1, Free: true}, {Tag: -1}}, 0, api.ErrForm},
		{[]api.Object{{Tag: -1}, {Tag: 1, Free: true}}, 0, api.ErrRange},
		{[]api.Object{{Body: make([]uint64, 256)}, {Tag: -1}}, 0, api.ErrLarge},
		{[]api.Object{{Refs: make([]int, 257)}}, 9, api.ErrRange},
		{[]api.Object{{Refs: []int{5}}}, 1, api.ErrFull},
		{[]api.Object{{Refs: []int{5}}, {Tag: -1}}, 9, api.ErrRange},
		{[]api.Object{{Refs: []int{5}}, {Tag: 1, Free: true}}, 9, api.ErrForm},
		{[]api.Object{{Refs: []int{1}}}, 3, api.ErrNone}, // the free object that is added is in no list
		{[]api.Object{{Refs: []int{0, 1}}, {Free: true}}, 4, api.ErrNone},
		{[]api.Object{{Refs: []int{math.MinInt}}}, 3, api.ErrNone},
		{[]api.Object{{Refs: []int{math.MaxInt}}}, 3, api.ErrNone},
		{[]api.Object{{Refs: []int{1 << 32}}}, 3, api.ErrNone},
	} {
		if a, e := Lay(c.l, c.n); e != c.want || e != api.OK && len(a) != 0 {
			t.Errorf("%d: %d words, error %d, not %d", i, len(a), e, c.want)
		}
	}
}

func TestObjectsP42(t *testing.T) {
	eachArena(func(a []uint64) {
		want, wantError := objectsOf(a)
		if got, e := Objects(a); !slices.EqualFunc(got, want, same) || e != wantError {
			t.Errorf("Objects(%v): %+v, error %d", a, got, e)
		}
	})
}

func TestAtP42(t *testing.T) {
	eachArena(func(a []uint64) {
		spots, _ := spotsOf(a, 0)
		l, e := objectsOf(a)
		for _, at := range []int{math.MinInt, -1, 0, 1, 2, 3, 4, 5, 256, 257, math.MaxInt} {
			want, wantError := api.Object{}, e
			if e == api.OK {
				i := slices.IndexFunc(spots, func(s api.Spot) bool { return s.At == at })
				if i >= 0 {
					want = l[i]
				} else {
					wantError = api.ErrNone
				}
			}
			if got, e := At(a, at); !same(got, want) || e != wantError {
				t.Errorf("At(%v, %d): %+v, error %d", a, at, got, e)
			}
		}
	})
}

func TestObjectsErrorsP42(t *testing.T) {
	for _, c := range []struct {
		a    []uint64
		want api.Errno
	}{
		{make([]uint64, 257), api.ErrLarge},
		{[]uint64{0, 1}, api.ErrForm},
		{[]uint64{0, 1, 9}, api.ErrNone},
	} {
		if l, e := Objects(c.a); e != c.want || len(l) != 0 {
			t.Errorf("Objects of %d words: %v, error %d", len(c.a), l, e)
		}
		// The error of Check comes before that of a word where no object starts.
		for _, at := range []int{0, 1, -1} {
			if o, e := At(c.a, at); e != c.want || !same(o, api.Object{}) {
				t.Errorf("At(%d words, %d): %v, error %d", len(c.a), at, o, e)
			}
		}
	}
}

// In a full arena each word is an object, or one object takes all words.
func TestFullP42(t *testing.T) {
	small := make([]uint64, 256)
	small[254], small[255] = 1, 256-1
	l, e := Objects(small)
	if len(l) != 255 || e != api.OK || !slices.Equal(l[254].Refs, []int{254}) {
		t.Error(len(l), e)
	}
	great := make([]uint64, 256)
	great[0], great[255] = 255, 1
	l, e = Objects(great)
	if len(l) != 1 || e != api.OK || len(l[0].Refs) != 255 || l[0].Refs[0] != -1 || l[0].Refs[254] != 0 {
		t.Error(l, e)
	}
}

// What Lay writes, Objects reads, and the other way round.
func TestBackP42(t *testing.T) {
	eachArena(func(a []uint64) {
		l, e := Objects(a)
		if e != api.OK {
			return
		}
		if back, e := Lay(l, len(a)); !slices.Equal(back, a) || e != api.OK {
			t.Errorf("Lay(%v, %d): %v, error %d", l, len(a), back, e)
		}
	})
	eachList(func(l []api.Object) {
		a, e := Lay(l, 12)
		if e != api.OK {
			return
		}
		if got, e := Objects(a); e != api.OK || !slices.EqualFunc(got[:len(l)], l, same) || len(got) > len(l)+1 {
			t.Errorf("Objects(%v): %v, error %d", a, got, e)
		}
	})
}
