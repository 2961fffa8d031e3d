package pin

import (
	"math"
	"slices"
	"testing"

	"cairnfield/api"
)

// numbers are those around the bounds of words, pins and requests, and some
// that are far away.
func numbers() []int {
	return []int{math.MinInt, math.MinInt + 1, -1 << 32, -1000000, -256, -2, -1, 0, 1, 2, 15, 16, 17, 254, 255, 256, 257,
		999999, 1000000, 1000001, 1 << 32, 1<<32 + 1, math.MaxInt - 1, math.MaxInt}
}

// pinsOf are pins with a request for each word.
func pinsOf(words ...int) []api.Pin {
	var p []api.Pin
	for _, at := range words {
		p = append(p, api.Pin{At: at, Many: 1})
	}
	return p
}

// row is a list of n pins at the words from first on, with many requests each.
func row(n, first, many int) []api.Pin {
	p := make([]api.Pin, n)
	for i := range p {
		p[i] = api.Pin{At: first + i, Many: many}
	}
	return p
}

// eachPins calls check with all lists of up to three pins at a few words with
// a few numbers of requests, valid and not.
func eachPins(check func(p []api.Pin)) {
	var some []api.Pin
	for _, at := range []int{-1, 0, 1, 2, 255, 256} {
		for _, many := range []int{0, 1, 2, 1000000, 1000001} {
			some = append(some, api.Pin{At: at, Many: many})
		}
	}
	check(nil)
	for _, x := range some {
		check([]api.Pin{x})
		for _, y := range some {
			check([]api.Pin{x, y})
			for _, z := range some {
				check([]api.Pin{x, y, z})
			}
		}
	}
}

// checkError is the error of Check as P80 lists it. The previous word of the
// first pin is none, so it cannot be too great.
func checkError(p []api.Pin) api.Errno {
	if len(p) > 16 {
		return api.ErrLarge
	}
	previous := math.MinInt
	for _, one := range p {
		if one.At < 0 || one.At > 255 || one.Many < 1 || one.Many > 1000000 {
			return api.ErrRange
		}
		if !(one.At > previous) {
			return api.ErrForm
		}
		previous = one.At
	}
	return api.OK
}

// counts has the number of requests for each word.
type counts [256]int

func countsOf(p []api.Pin) counts {
	var c counts
	for _, one := range p {
		c[one.At] = one.Many
	}
	return c
}

// pins has a pin for each word that has requests.
func (c counts) pins() []api.Pin {
	var p []api.Pin
	for at, many := range c {
		if many > 0 {
			p = append(p, api.Pin{At: at, Many: many})
		}
	}
	return p
}

// answer is what Add, Drop or Many returns; Many returns no pins.
type answer struct {
	p    []api.Pin
	many int
	e    api.Errno
}

func (a answer) equals(b answer) bool {
	return slices.Equal(a.p, b.p) && a.many == b.many && a.e == b.e
}

func added(p []api.Pin, at int) answer {
	after, many, e := Add(p, at)
	return answer{after, many, e}
}

func dropped(p []api.Pin, at int) answer {
	after, many, e := Drop(p, at)
	return answer{after, many, e}
}

func counted(p []api.Pin, at int) answer {
	many, e := Many(p, at)
	return answer{nil, many, e}
}

// checkedError is the error that all functions but Check look for first.
func checkedError(p []api.Pin, at int) api.Errno {
	if e := checkError(p); e != api.OK {
		return e
	}
	if at < 0 || at > 255 {
		return api.ErrRange
	}
	return api.OK
}

// wantAdded follows P80 with a count for each word.
func wantAdded(p []api.Pin, at int) answer {
	if e := checkedError(p, at); e != api.OK {
		return answer{e: e}
	}
	c := countsOf(p)
	if c[at] == 1000000 || c[at] == 0 && len(p) == 16 {
		return answer{e: api.ErrFull}
	}
	c[at]++
	return answer{c.pins(), c[at], api.OK}
}

// wantDropped follows P80 with a count for each word.
func wantDropped(p []api.Pin, at int) answer {
	if e := checkedError(p, at); e != api.OK {
		return answer{e: e}
	}
	c := countsOf(p)
	if c[at] == 0 {
		return answer{e: api.ErrNone}
	}
	c[at]--
	return answer{c.pins(), c[at], api.OK}
}

// wantCounted follows P80 with a count for each word.
func wantCounted(p []api.Pin, at int) answer {
	if e := checkedError(p, at); e != api.OK {
		return answer{e: e}
	}
	return answer{many: countsOf(p)[at]}
}

// compare calls the three functions with a word and with the model of them.
func compare(t *testing.T, p []api.Pin, at int) {
	t.Helper()
	if got, want := added(p, at), wantAdded(p, at); !got.equals(want) {
		t.Errorf("Add(%v, %d): %v, not %v", p, at, got, want)
	}
	if got, want := dropped(p, at), wantDropped(p, at); !got.equals(want) {
		t.Errorf("Drop(%v, %d): %v, not %v", p, at, got, want)
	}
	if got, want := counted(p, at), wantCounted(p, at); !got.equals(want) {
		t.Errorf("Many(%v, %d): %v, not %v", p, at, got, want)
	}
}

func TestCheckP80(t *testing.T) {
	eachPins(func(p []api.Pin) {
		if e, want := Check(p), checkError(p); e != want {
			t.Errorf("Check(%v): error %d, not %d", p, e, want)
		}
	})
}

func TestCheckBoundsP80(t *testing.T) {
	for i, c := range []struct {
		p    []api.Pin
		want api.Errno
	}{
		{nil, api.OK},
		{row(16, 0, 1), api.OK},
		{row(16, 240, 1000000), api.OK},
		{row(17, 0, 1), api.ErrLarge},
		{row(16, 241, 1), api.ErrRange},
		{row(16, -1, 1), api.ErrRange},
		{row(100000, 0, 1), api.ErrLarge},
		{[]api.Pin{{At: 0, Many: 1}}, api.OK},
		{[]api.Pin{{At: 255, Many: 1000000}}, api.OK},
		{[]api.Pin{{At: -1, Many: 1}}, api.ErrRange},
		{[]api.Pin{{At: 256, Many: 1}}, api.ErrRange},
		{[]api.Pin{{At: 0, Many: 0}}, api.ErrRange},
		{[]api.Pin{{At: 0, Many: -1}}, api.ErrRange},
		{[]api.Pin{{At: 0, Many: 1000001}}, api.ErrRange},
		{[]api.Pin{{At: 1 << 32, Many: 1}}, api.ErrRange},
		{[]api.Pin{{At: 0, Many: 1<<32 + 1}}, api.ErrRange},
		{[]api.Pin{{}}, api.ErrRange},
		{pinsOf(0, 1), api.OK},
		{pinsOf(1, 1), api.ErrForm},
		{pinsOf(1, 0), api.ErrForm},
		{pinsOf(0, 2, 1), api.ErrForm},
		{pinsOf(0, 2, 0), api.ErrForm},
		{pinsOf(0, 2, 2), api.ErrForm},
	} {
		if e := Check(c.p); e != c.want {
			t.Errorf("%d: error %d, not %d", i, e, c.want)
		}
	}
}

// Too many pins come before what is wrong with one, and of two wrong pins the
// first one counts, whichever its error is.
func TestCheckOrderP80(t *testing.T) {
	for i, c := range []struct {
		p    []api.Pin
		want api.Errno
	}{
		{make([]api.Pin, 17), api.ErrLarge},
		{row(17, 250, 1), api.ErrLarge},
		{slices.Repeat(pinsOf(1), 17), api.ErrLarge},
		{append(row(16, 0, 1), api.Pin{At: -1}), api.ErrLarge},
		{[]api.Pin{{At: 3, Many: 1}, {At: 3, Many: 0}}, api.ErrRange},
		{[]api.Pin{{At: 3, Many: 1}, {At: -1, Many: 1}}, api.ErrRange},
		{[]api.Pin{{At: 3, Many: 1}, {At: 3, Many: 1}, {At: 4, Many: 0}}, api.ErrForm},
		{[]api.Pin{{At: 3, Many: 1}, {At: 2, Many: 1}, {At: 256, Many: 1}}, api.ErrForm},
		{[]api.Pin{{At: 3, Many: 0}, {At: 2, Many: 1}}, api.ErrRange},
		{[]api.Pin{{At: 256, Many: 1}, {At: 2, Many: 1}}, api.ErrRange},
		{[]api.Pin{{At: 5, Many: 1}, {At: 6, Many: 1000001}, {At: 1, Many: 1}}, api.ErrRange},
	} {
		if e := Check(c.p); e != c.want {
			t.Errorf("%d: error %d, not %d", i, e, c.want)
		}
	}
}

// A wrong pin is found wherever it is.
func TestCheckEveryPinP80(t *testing.T) {
	for i := range api.MaxPins {
		for _, v := range numbers() {
			p := row(api.MaxPins, 100, 7)
			p[i].At = v
			if e, want := Check(p), checkError(p); e != want {
				t.Errorf("pin %d at %d: error %d, not %d", i, v, e, want)
			}
			p = row(api.MaxPins, 100, 7)
			p[i].Many = v
			if e, want := Check(p), checkError(p); e != want {
				t.Errorf("%d requests of pin %d: error %d, not %d", v, i, e, want)
			}
		}
	}
}

// Add, Drop and Many of all small lists, valid and not.
func TestAllP80(t *testing.T) {
	eachPins(func(p []api.Pin) {
		for _, at := range []int{-1, 0, 1, 2, 3, 255, 256} {
			compare(t, p, at)
		}
	})
}

func TestBoundsP80(t *testing.T) {
	for _, p := range [][]api.Pin{nil, pinsOf(0), pinsOf(255), row(15, 3, 2), row(16, 0, 1), row(16, 240, 999999),
		row(16, 100, 1000000), row(17, 0, 1)} {
		for _, at := range numbers() {
			compare(t, p, at)
		}
		for at := range api.MaxWords {
			compare(t, p, at)
		}
	}
}

// A long row of calls, in which pins come and go at 21 words, and every answer
// occurs: more requests are added for a time and then more are dropped.
func TestManyCallsP80(t *testing.T) {
	var p []api.Pin
	var c counts
	seen := map[api.Errno]int{}
	for i := range 20000 {
		at := i * i * 7 % 41 * 6
		got, want, change := added(p, at), wantAdded(p, at), 1
		if i%10 < 3+i/500%2*4 {
			got, want, change = dropped(p, at), wantDropped(p, at), -1
		}
		if !got.equals(want) {
			t.Fatalf("%d: %v and %d, change %d: %v, not %v", i, p, at, change, got, want)
		}
		seen[got.e]++
		if got.e == api.OK {
			p = got.p
			c[at] += change
		}
		if !slices.Equal(p, c.pins()) || Check(p) != api.OK {
			t.Fatalf("%d: %v, not %v", i, p, c.pins())
		}
	}
	if seen[api.OK] < 1000 || seen[api.ErrFull] < 100 || seen[api.ErrNone] < 100 {
		t.Error("an answer is rare:", seen)
	}
}

func TestAddP80(t *testing.T) {
	for i, c := range []struct {
		p    []api.Pin
		at   int
		want answer
	}{
		{nil, 0, answer{pinsOf(0), 1, api.OK}},
		{nil, 255, answer{pinsOf(255), 1, api.OK}},
		{pinsOf(5), 3, answer{pinsOf(3, 5), 1, api.OK}},
		{pinsOf(5), 7, answer{pinsOf(5, 7), 1, api.OK}},
		{pinsOf(5, 9), 7, answer{pinsOf(5, 7, 9), 1, api.OK}},
		{[]api.Pin{{At: 5, Many: 4}, {At: 6, Many: 2}}, 5, answer{[]api.Pin{{At: 5, Many: 5}, {At: 6, Many: 2}}, 5, api.OK}},
		{[]api.Pin{{At: 5, Many: 999999}}, 5, answer{[]api.Pin{{At: 5, Many: 1000000}}, 1000000, api.OK}},
		{[]api.Pin{{At: 5, Many: 1000000}}, 5, answer{e: api.ErrFull}},
		{[]api.Pin{{At: 5, Many: 1000000}}, 4, answer{[]api.Pin{{At: 4, Many: 1}, {At: 5, Many: 1000000}}, 1, api.OK}},
		{row(15, 0, 1), 15, answer{row(16, 0, 1), 1, api.OK}},
		{row(16, 0, 1), 16, answer{e: api.ErrFull}},
		{row(16, 1, 1), 0, answer{e: api.ErrFull}},
		{row(16, 0, 1000000), 3, answer{e: api.ErrFull}},
		{row(16, 0, 1), -1, answer{e: api.ErrRange}},
		{row(16, 0, 1), 256, answer{e: api.ErrRange}},
		{row(17, 0, 1), 256, answer{e: api.ErrLarge}},
		{pinsOf(5, 5), 256, answer{e: api.ErrForm}},
		{pinsOf(5, 5), 5, answer{e: api.ErrForm}},
	} {
		if got := added(c.p, c.at); !got.equals(c.want) {
			t.Errorf("%d: %v, not %v", i, got, c.want)
		}
	}
	full := row(16, 0, 1)
	if p, many, e := Add(full, 15); len(p) != 16 || p[15].Many != 2 || many != 2 || e != api.OK {
		t.Error("a request for a word that is pinned, with all pins used:", p, many, e)
	}
}

func TestDropP80(t *testing.T) {
	for i, c := range []struct {
		p    []api.Pin
		at   int
		want answer
	}{
		{nil, 0, answer{e: api.ErrNone}},
		{pinsOf(5), 4, answer{e: api.ErrNone}},
		{pinsOf(5), 6, answer{e: api.ErrNone}},
		{pinsOf(5), 5, answer{nil, 0, api.OK}},
		{pinsOf(3, 5, 7), 3, answer{pinsOf(5, 7), 0, api.OK}},
		{pinsOf(3, 5, 7), 5, answer{pinsOf(3, 7), 0, api.OK}},
		{pinsOf(3, 5, 7), 7, answer{pinsOf(3, 5), 0, api.OK}},
		{[]api.Pin{{At: 5, Many: 2}}, 5, answer{pinsOf(5), 1, api.OK}},
		{row(16, 0, 1000000), 16, answer{e: api.ErrNone}},
		{[]api.Pin{{At: 255, Many: 1000000}}, 255, answer{[]api.Pin{{At: 255, Many: 999999}}, 999999, api.OK}},
		{pinsOf(5), -1, answer{e: api.ErrRange}},
		{pinsOf(5), 256, answer{e: api.ErrRange}},
		{row(17, 0, 1), -1, answer{e: api.ErrLarge}},
		{pinsOf(5, 5), 6, answer{e: api.ErrForm}},
	} {
		if got := dropped(c.p, c.at); !got.equals(c.want) {
			t.Errorf("%d: %v, not %v", i, got, c.want)
		}
	}
}

func TestManyP80(t *testing.T) {
	p := []api.Pin{{At: 0, Many: 3}, {At: 5, Many: 1000000}, {At: 255, Many: 1}}
	for _, c := range []struct{ at, many int }{{0, 3}, {1, 0}, {4, 0}, {5, 1000000}, {6, 0}, {254, 0}, {255, 1}} {
		if many, e := Many(p, c.at); many != c.many || e != api.OK {
			t.Errorf("Many(%d): %d, error %d", c.at, many, e)
		}
	}
	if many, e := Many(nil, 7); many != 0 || e != api.OK {
		t.Error("no pins:", many, e)
	}
}

// An object that was pinned twice must be unpinned twice.
func TestExampleP80(t *testing.T) {
	p, _, _ := Add(nil, 9)
	p, _, _ = Add(p, 9)
	p, left, _ := Drop(p, 9)
	if many, e := Many(p, 9); many != 1 || left != 1 || e != api.OK {
		t.Error(many, left, e)
	}
	p, left, _ = Drop(p, 9)
	if many, e := Many(p, 9); len(p) != 0 || many != 0 || left != 0 || e != api.OK {
		t.Error(p, many, left, e)
	}
	if _, _, e := Drop(p, 9); e != api.ErrNone {
		t.Error(e)
	}
}
