package young

import (
	"math"
	"slices"
	"testing"

	"cairnfield/api"
	"cairnfield/gap"
	"cairnfield/tint"
	"cairnfield/walk"
)

const (
	free   = 1 << 48
	tagged = 5 << 32
	body   = 1 << 16
)

// pieces are the words of single objects. Some of their references are valid
// only behind or before certain others, and some of their data words look like
// references.
func pieces() [][]uint64 {
	return [][]uint64{
		{0}, {tagged + body, 3}, {1, 1}, {1, 3}, {tagged + 2 + body, 3, 0, 1}, {2, 5, 1}, {free}, {free + body, 1},
	}
}

// eachArena calls check with all arenas of up to three of the pieces that are
// valid, and with the words of the objects that are not free.
func eachArena(check func(a []uint64, all []int)) {
	level := [][]uint64{nil}
	for range 4 {
		var next [][]uint64
		for _, a := range level {
			if walk.Check(a) == api.OK {
				check(a, starts(a))
			}
			for _, p := range pieces() {
				next = append(next, slices.Concat(a, p))
			}
		}
		level = next
	}
}

// eachAges calls check with all of these arenas, whose objects are young, old
// and noted in all ways that are valid.
func eachAges(check func(g api.Ages, all []int)) {
	eachArena(func(a []uint64, all []int) {
		for _, old := range subsets(all) {
			for _, noted := range subsets(old) {
				g := api.Ages{Arena: a, Old: old, Noted: noted}
				if errorOf(g) == api.OK {
					check(g, all)
				}
			}
		}
	})
}

// starts returns the words of the objects that are not free.
func starts(a []uint64) []int {
	var l []int
	spots, _ := walk.Spots(a)
	for _, s := range spots {
		if !s.Head.Free {
			l = append(l, s.At)
		}
	}
	return l
}

// subsets returns all lists of some of the words, in the same order.
func subsets(words []int) [][]int {
	all := [][]int{nil}
	for _, v := range words {
		for _, l := range all {
			all = append(all, append(slices.Clone(l), v))
		}
	}
	return all
}

// refsOf returns the words of the objects to which the object at word at
// refers.
func refsOf(a []uint64, at int) []int {
	var l []int
	for _, ref := range a[at+1:][:headOf(a, at).Refs] {
		if ref != 0 {
			l = append(l, int(ref)-1)
		}
	}
	return l
}

// headOf returns the header of the object at word at.
func headOf(a []uint64, at int) api.Head {
	spots, _ := walk.Spots(a)
	for _, s := range spots {
		if s.At == at {
			return s.Head
		}
	}
	return api.Head{}
}

// isSet reports whether a list is strictly increasing.
func isSet(l []int) bool {
	return slices.Equal(l, slices.Compact(slices.Sorted(slices.Values(l))))
}

// errorOf follows the list of errors of P150.
func errorOf(g api.Ages) api.Errno {
	if e := walk.Check(g.Arena); e != api.OK {
		return e
	}
	if !isSet(g.Old) || !isSet(g.Noted) {
		return api.ErrForm
	}
	all := starts(g.Arena)
	for _, at := range g.Old {
		if !slices.Contains(all, at) {
			return api.ErrNone
		}
	}
	for _, at := range g.Noted {
		if !slices.Contains(g.Old, at) {
			return api.ErrNone
		}
	}
	for _, at := range g.Old {
		for _, to := range refsOf(g.Arena, at) {
			if !slices.Contains(g.Noted, at) && !slices.Contains(g.Old, to) {
				return api.ErrHeld
			}
		}
	}
	return api.OK
}

// surviving asks for each young object whether it survives, until no further
// one does.
func surviving(g api.Ages, from []int) []int {
	roots := slices.Clone(from)
	for _, at := range g.Noted {
		roots = append(roots, refsOf(g.Arena, at)...)
	}
	var l []int
	for {
		named := slices.Clone(roots)
		for _, at := range l {
			named = append(named, refsOf(g.Arena, at)...)
		}
		var next []int
		for _, at := range starts(g.Arena) {
			if !slices.Contains(g.Old, at) && slices.Contains(named, at) {
				next = append(next, at)
			}
		}
		if slices.Equal(l, next) {
			return l
		}
		l = next
	}
}

// grown writes the arena anew, object by object.
func grown(g api.Ages, from []int) api.Ages {
	old := slices.Sorted(slices.Values(append(surviving(g, from), g.Old...)))
	spots, _ := walk.Spots(g.Arena)
	var b []uint64
	for _, s := range spots {
		long := 1 + s.Head.Refs + s.Head.Body
		if s.Head.Free || slices.Contains(old, s.At) {
			b = append(b, g.Arena[s.At:][:long]...)
		} else {
			b = append(b, free+uint64(long-1)*body)
			b = append(b, make([]uint64, long-1)...)
		}
	}
	return api.Ages{Arena: b, Old: old}
}

// written is the heap after a write that is no error.
func written(g api.Ages, at, ref, to int) api.Ages {
	h := api.Ages{Arena: slices.Clone(g.Arena), Old: g.Old, Noted: slices.Clone(g.Noted)}
	h.Arena[at+1+ref] = uint64(to + 1)
	if slices.Contains(g.Old, at) && to != -1 && !slices.Contains(g.Old, to) && !slices.Contains(g.Noted, at) {
		h.Noted = slices.Sorted(slices.Values(append(h.Noted, at)))
	}
	return h
}

func equal(g, h api.Ages) bool {
	return slices.Equal(g.Arena, h.Arena) && slices.Equal(g.Old, h.Old) && slices.Equal(g.Noted, h.Noted)
}

func checkCheck(t *testing.T, g api.Ages, want api.Errno) {
	t.Helper()
	if e := Check(g); e != want {
		t.Errorf("Check(%v): error %d, not %d", g, e, want)
	}
}

func checkWrite(t *testing.T, g api.Ages, at, ref, to int, h api.Ages, want api.Errno) {
	t.Helper()
	if got, e := Write(g, at, ref, to); !equal(got, h) || e != want {
		t.Errorf("Write(%v, %d, %d, %d): %v, error %d, not %v, error %d", g, at, ref, to, got, e, h, want)
	}
}

func checkKeep(t *testing.T, g api.Ages, from, l []int, want api.Errno) {
	t.Helper()
	if got, e := Keep(g, from); !slices.Equal(got, l) || e != want {
		t.Errorf("Keep(%v, %v): %v, error %d, not %v, error %d", g, from, got, e, l, want)
	}
}

func checkGrow(t *testing.T, g api.Ages, from []int, h api.Ages, want api.Errno) {
	t.Helper()
	if got, e := Grow(g, from); !equal(got, h) || e != want {
		t.Errorf("Grow(%v, %v): %v, error %d, not %v, error %d", g, from, got, e, h, want)
	}
}

// checkBoth expects what Keep and Grow return when there is no error.
func checkBoth(t *testing.T, g api.Ages, from []int, l []int, h api.Ages) {
	t.Helper()
	checkKeep(t, g, from, l, api.OK)
	checkGrow(t, g, from, h, api.OK)
}

// checkErrors expects an error of Check, whatever the other arguments are.
func checkErrors(t *testing.T, g api.Ages, want api.Errno) {
	t.Helper()
	checkCheck(t, g, want)
	for _, from := range [][]int{nil, {0}, {-1}, {1, 0}} {
		checkKeep(t, g, from, nil, want)
		checkGrow(t, g, from, api.Ages{}, want)
	}
	for _, c := range [][3]int{{0, 0, 0}, {0, 0, -1}, {-1, 0, 0}, {0, 9, 0}, {0, 0, -2}} {
		checkWrite(t, g, c[0], c[1], c[2], api.Ages{}, want)
	}
}

// All lists of objects are checked, also those that have a word too many.
func TestAllHeapsP150(t *testing.T) {
	seen := map[api.Errno]int{}
	eachArena(func(a []uint64, all []int) {
		for _, old := range subsets(all) {
			for _, noted := range subsets(all) {
				g := api.Ages{Arena: a, Old: old, Noted: noted}
				want := errorOf(g)
				seen[want]++
				if want == api.OK {
					checkCheck(t, g, want)
				} else {
					checkErrors(t, g, want)
				}
			}
		}
	})
	for _, e := range []api.Errno{api.OK, api.ErrNone, api.ErrHeld} {
		if seen[e] < 300 {
			t.Errorf("only %d heaps with the error %d", seen[e], e)
		}
	}
}

// lists returns all lists of up to two of the words, in any order and with
// repetitions.
func lists(words ...int) [][]int {
	all := [][]int{nil}
	for _, v := range words {
		all = append(all, []int{v})
		for _, w := range words {
			all = append(all, []int{v, w})
		}
	}
	return all
}

func TestAllListsP150(t *testing.T) {
	for _, a := range [][]uint64{
		{1, 3, 1, 1, free},       // two objects that refer to each other
		{1, 5, free, 0, 0},       // the first one refers to the last one
		{body, 3, 0, free, 1, 1}, // the last one refers to the first one
		{1, 4, 1, 0, 0},          // a reference into an object
		{1, 1, 1 << 60},          // no header
		{1, 3, free},             // a reference to a free object
		make([]uint64, 257),
		nil,
	} {
		for _, old := range lists(-1, 0, 2, 3, 4) {
			for _, noted := range lists(-1, 0, 2, 3, 4) {
				g := api.Ages{Arena: a, Old: old, Noted: noted}
				if want := errorOf(g); want == api.OK {
					checkCheck(t, g, want)
				} else {
					checkErrors(t, g, want)
				}
			}
		}
	}
}

func TestExamplesP150(t *testing.T) {
	// The object at word 0 refers to the one at word 4, the one at word 2 to
	// none, word 3 is free, and word 5 is an object.
	a := []uint64{1, 5, 0, free, 0, 0}
	bad := []uint64{1, 7, 0, free, 0, 0}
	for _, c := range []struct {
		arena      []uint64
		old, noted []int
		want       api.Errno
	}{
		{a, nil, nil, api.OK},
		{a, []int{0}, []int{0}, api.OK},
		{a, []int{0, 4}, nil, api.OK},
		{a, []int{0, 4}, []int{0, 4}, api.OK},
		{a, []int{4}, nil, api.OK},
		// An object may be noted although it does not refer to a young one.
		{a, []int{2, 5}, []int{2, 5}, api.OK},
		{a, []int{2, 2}, nil, api.ErrForm},
		{a, []int{4, 2}, nil, api.ErrForm},
		{a, []int{2, 4}, []int{2, 2}, api.ErrForm},
		{a, []int{2, 4, 5}, []int{2, 5, 4}, api.ErrForm},
		{a, []int{3}, nil, api.ErrNone},
		{a, []int{1}, nil, api.ErrNone},
		{a, []int{6}, nil, api.ErrNone},
		{a, []int{-1}, nil, api.ErrNone},
		{a, []int{2, 3, 4}, nil, api.ErrNone},
		{a, nil, []int{2}, api.ErrNone},
		{a, []int{2, 5}, []int{4}, api.ErrNone},
		{a, []int{2, 5}, []int{2, 4, 5}, api.ErrNone},
		{a, []int{2}, []int{-1}, api.ErrNone},
		{a, []int{0}, nil, api.ErrHeld},
		{a, []int{0, 2}, []int{2}, api.ErrHeld},
		// Each of these has the errors that follow, too.
		{append(slices.Clone(bad), make([]uint64, 251)...), []int{1, 1}, []int{0, 0}, api.ErrLarge},
		{append(slices.Clone(bad), 1<<60), []int{1, 1}, []int{0, 0}, api.ErrForm},
		{bad, []int{1, 1}, []int{0, 0}, api.ErrNone},
		{a, []int{0, 3, 1}, []int{2}, api.ErrForm},
		{a, []int{0, 3}, []int{2, 2}, api.ErrForm},
		{a, []int{0, 3}, nil, api.ErrNone},
		{a, []int{0}, []int{2}, api.ErrNone},
	} {
		g := api.Ages{Arena: c.arena, Old: c.old, Noted: c.noted}
		if c.want == api.OK {
			checkCheck(t, g, api.OK)
		} else {
			checkErrors(t, g, c.want)
		}
	}
}

// wide are numbers of which those from 0 to 7 may be words.
func wide() []int {
	return []int{math.MinInt, math.MinInt + 1, -1 << 32, -2, -1, 0, 1, 2, 3, 4, 5, 6, 7, 8, 255, 256, 1 << 32, 1<<32 + 6, math.MaxInt - 1, math.MaxInt}
}

// Numbers that are equal to a word only after a conversion are no words.
func TestWideNumbersP150(t *testing.T) {
	for _, at := range wide() {
		if at != 0 && at != 1 {
			checkErrors(t, api.Ages{Arena: []uint64{0, 0}, Old: []int{at}}, api.ErrNone)
			checkErrors(t, api.Ages{Arena: []uint64{0, 0}, Old: []int{0, 1}, Noted: []int{at}}, api.ErrNone)
		}
	}
}

func TestAllHeapsP151(t *testing.T) {
	noted := 0
	eachAges(func(g api.Ages, all []int) {
		for _, at := range all {
			for ref := range headOf(g.Arena, at).Refs {
				for _, to := range append(slices.Clone(all), -1) {
					h := written(g, at, ref, to)
					checkWrite(t, g, at, ref, to, h, api.OK)
					checkCheck(t, h, api.OK)
					if len(h.Noted) > len(g.Noted) {
						noted++
					}
				}
			}
		}
	})
	if noted < 100 {
		t.Errorf("only %d writes after which there is a further noted object", noted)
	}
}

func TestExamplesP151(t *testing.T) {
	// Objects with one reference each.
	a := []uint64{1, 0, 1, 0, 1, 0}
	b := []uint64{1, 0, 1, 5, 1, 0}
	for _, c := range []struct {
		old, noted, want []int
	}{
		// The second object is made to refer to the third one.
		{[]int{2}, nil, []int{2}},
		{[]int{2}, []int{2}, []int{2}},
		{[]int{0, 2}, []int{0}, []int{0, 2}},
		{[]int{0, 2}, nil, []int{2}},
		{[]int{2, 4}, nil, nil},
		{[]int{2, 4}, []int{4}, []int{4}},
		{[]int{4}, nil, nil},
		{nil, nil, nil},
		{[]int{0}, nil, nil},
	} {
		checkWrite(t, api.Ages{Arena: a, Old: c.old, Noted: c.noted}, 2, 0, 4, api.Ages{Arena: b, Old: c.old, Noted: c.want}, api.OK)
	}
	// The new word is put where it belongs in order.
	checkWrite(t, api.Ages{Arena: a, Old: []int{0, 4}, Noted: []int{4}}, 0, 0, 2, api.Ages{Arena: []uint64{1, 3, 1, 0, 1, 0}, Old: []int{0, 4}, Noted: []int{0, 4}}, api.OK)
	// A noted object remains noted, even if it refers to no young one any more.
	checkWrite(t, api.Ages{Arena: b, Old: []int{2}, Noted: []int{2}}, 2, 0, -1, api.Ages{Arena: a, Old: []int{2}, Noted: []int{2}}, api.OK)
	checkWrite(t, api.Ages{Arena: b, Old: []int{2}, Noted: []int{2}}, 2, 0, 2, api.Ages{Arena: []uint64{1, 0, 1, 3, 1, 0}, Old: []int{2}, Noted: []int{2}}, api.OK)
	// The last reference is the one before the data words.
	checkWrite(t, api.Ages{Arena: []uint64{2 + body, 0, 0, 0, 0}, Old: []int{0}}, 0, 1, 4, api.Ages{Arena: []uint64{2 + body, 0, 5, 0, 0}, Old: []int{0}, Noted: []int{0}}, api.OK)
}

func TestErrorsP151(t *testing.T) {
	// Objects at words 0, with 2 references and a data word, and 6, with 1
	// reference; word 4 is free.
	g := api.Ages{Arena: []uint64{2 + body, 7, 0, 7, free + body, 1, 1, 0}, Old: []int{0}, Noted: []int{0}}
	refs := map[int]int{0: 2, 6: 1}
	for _, at := range wide() {
		for _, ref := range wide() {
			for _, to := range wide() {
				if count, ok := refs[at]; !ok {
					checkWrite(t, g, at, ref, to, api.Ages{}, api.ErrNone)
				} else if ref < 0 || ref >= count || to != -1 && to != 0 && to != 6 {
					checkWrite(t, g, at, ref, to, api.Ages{}, api.ErrRange)
				} else {
					checkWrite(t, g, at, ref, to, written(g, at, ref, to), api.OK)
				}
			}
		}
	}
}

func TestAllHeapsP152(t *testing.T) {
	kept, lost := 0, 0
	eachAges(func(g api.Ages, all []int) {
		for _, from := range subsets(all) {
			l, h := surviving(g, from), grown(g, from)
			checkBoth(t, g, from, l, h)
			checkCheck(t, h, api.OK)
			kept += len(l)
			lost += len(all) - len(h.Old)
			// All that is kept is old now, so that nothing more is freed.
			checkBoth(t, h, nil, nil, h)
			checkReachable(t, g, h, from)
		}
	})
	if kept < 2000 || lost < 2000 {
		t.Errorf("only %d objects kept and %d freed", kept, lost)
	}
}

// checkReachable expects the same reachable objects after a collection.
func checkReachable(t *testing.T, g, h api.Ages, from []int) {
	t.Helper()
	before, e := tint.Reach(g.Arena, from)
	after, f := tint.Reach(h.Arena, from)
	if !slices.Equal(before, after) || e != api.OK || f != api.OK {
		t.Errorf("%v, from %v: %v reachable, %v before, errors %d, %d", g, from, after, before, e, f)
	}
}

func TestExamplesP152(t *testing.T) {
	checkBoth(t, api.Ages{}, nil, nil, api.Ages{})
	// The first object refers to the second one, and this one to the third one.
	a := []uint64{1, 3, 1 + body, 6, 9, tagged + 2*body, 8, 8}
	all := []int{0, 2, 5}
	none := []uint64{free + body, 0, free + 2*body, 0, 0, free + 2*body, 0, 0}
	// Freed objects are not merged, and their tag and data vanish.
	checkBoth(t, api.Ages{Arena: a}, nil, nil, api.Ages{Arena: none})
	checkBoth(t, api.Ages{Arena: a}, []int{0}, all, api.Ages{Arena: a, Old: all})
	checkBoth(t, api.Ages{Arena: a}, []int{2}, []int{2, 5}, api.Ages{Arena: slices.Concat(none[:2], a[2:]), Old: []int{2, 5}})
	checkBoth(t, api.Ages{Arena: a}, []int{5}, []int{5}, api.Ages{Arena: slices.Concat(none[:5], a[5:]), Old: []int{5}})
	// The order of from does not matter, and repetitions do not, either.
	checkBoth(t, api.Ages{Arena: a}, []int{5, 0, 5, 2}, all, api.Ages{Arena: a, Old: all})
	// The example of the chapter: only a noted old object refers to a young one.
	checkBoth(t, api.Ages{Arena: a, Old: []int{0}, Noted: []int{0}}, nil, []int{2, 5}, api.Ages{Arena: a, Old: all})
	// An old object survives even if it is not reachable, and is no result.
	checkBoth(t, api.Ages{Arena: a, Old: []int{5}}, nil, nil, api.Ages{Arena: slices.Concat(none[:5], a[5:]), Old: []int{5}})
	checkBoth(t, api.Ages{Arena: a, Old: []int{5}}, []int{5}, nil, api.Ages{Arena: slices.Concat(none[:5], a[5:]), Old: []int{5}})
	checkBoth(t, api.Ages{Arena: a, Old: all, Noted: all}, nil, nil, api.Ages{Arena: a, Old: all})
	// A young object refers to an old one, and this one to a young one.
	checkBoth(t, api.Ages{Arena: a, Old: []int{2}, Noted: []int{2}}, []int{0}, []int{0, 5}, api.Ages{Arena: a, Old: all})
	// What is free already stays as it is.
	b := []uint64{free + body, 7, 0, free + body, 6}
	checkBoth(t, api.Ages{Arena: b}, nil, nil, api.Ages{Arena: []uint64{free + body, 7, free, free + body, 6}})
	// Garbage whose objects refer to each other, or to themselves, is freed.
	checkBoth(t, api.Ages{Arena: []uint64{1, 3, 1, 1, 1, 5}}, nil, nil, api.Ages{Arena: []uint64{free + body, 0, free + body, 0, free + body, 0}})
	// A data word is no reference.
	checkBoth(t, api.Ages{Arena: []uint64{body, 3, 0}, Old: []int{0}, Noted: []int{0}}, nil, nil, api.Ages{Arena: []uint64{body, 3, free}, Old: []int{0}})
}

func TestErrorsP152(t *testing.T) {
	g := api.Ages{Arena: []uint64{1, 5, 0, free, 0, 0}, Old: []int{0}, Noted: []int{0}}
	for _, from := range slices.Concat(lists(wide()...), [][]int{{0, 2, 4, 5}, {0, 2, 4, 5, 3}, {5, 4, 6, 0}}) {
		if slices.ContainsFunc(from, func(at int) bool { return !slices.Contains(starts(g.Arena), at) }) {
			checkKeep(t, g, from, nil, api.ErrNone)
			checkGrow(t, g, from, api.Ages{}, api.ErrNone)
		} else {
			checkBoth(t, g, from, surviving(g, from), grown(g, from))
		}
	}
}

// In a full arena each word is an object, or one object takes all words.
func TestFullArenaP150P151P152(t *testing.T) {
	a := make([]uint64, 256)
	freed := slices.Repeat([]uint64{free}, 256)
	all := starts(a)
	checkBoth(t, api.Ages{Arena: a}, nil, nil, api.Ages{Arena: freed})
	checkBoth(t, api.Ages{Arena: a}, all, all, api.Ages{Arena: a, Old: all})
	checkBoth(t, api.Ages{Arena: a, Old: all, Noted: all}, nil, nil, api.Ages{Arena: a, Old: all})
	checkBoth(t, api.Ages{Arena: a}, []int{255}, []int{255}, api.Ages{Arena: append(freed[:255:255], 0), Old: []int{255}})
	great := slices.Repeat([]uint64{1}, 256)
	great[0] = 255
	none := make([]uint64, 256)
	none[0] = free + 255*body
	checkBoth(t, api.Ages{Arena: great}, nil, nil, api.Ages{Arena: none})
	checkBoth(t, api.Ages{Arena: great}, []int{0}, []int{0}, api.Ages{Arena: great, Old: []int{0}})
	checkCheck(t, api.Ages{Arena: great, Old: []int{0}}, api.OK)
	last := slices.Clone(great)
	last[255] = 0
	checkWrite(t, api.Ages{Arena: great}, 0, 254, -1, api.Ages{Arena: last}, api.OK)
	checkWrite(t, api.Ages{Arena: great}, 0, 255, -1, api.Ages{}, api.ErrRange)
}

// A chain leads from the last object to the first one.
func TestChainP152(t *testing.T) {
	var a []uint64
	for at := 0; at < 256; at += 2 {
		a = append(a, 1, uint64(max(0, at-1)))
	}
	all := starts(a)
	grownUp := api.Ages{Arena: a, Old: all}
	checkBoth(t, api.Ages{Arena: a}, []int{254}, all, grownUp)
	checkBoth(t, api.Ages{Arena: a, Old: []int{254}, Noted: []int{254}}, nil, all[:127], grownUp)
	checkBoth(t, api.Ages{Arena: a, Old: []int{100, 254}, Noted: []int{100, 254}}, nil, slices.Concat(all[:50], all[51:127]), grownUp)
	checkErrors(t, api.Ages{Arena: a, Old: []int{100, 254}, Noted: []int{100}}, api.ErrHeld)
	checkCheck(t, api.Ages{Arena: a, Old: all[:50]}, api.OK)
}

// picker returns numbers below n that are always the same.
func picker() func(n int) int {
	seed := uint32(1)
	return func(n int) int {
		seed = seed*1664525 + 1013904223
		return int(seed>>8) % n
	}
}

// mutator is a program that uses a generational heap.
type mutator struct {
	g    api.Ages
	from []int
	pick func(n int) int
	// made and freed count objects.
	made, freed int
}

// allocate makes a young object, if there is room, and begins from it, too.
func (m *mutator) allocate(t *testing.T) {
	t.Helper()
	a, e := gap.Join(m.g.Arena)
	if e != api.OK {
		t.Fatalf("%v: error %d", m.g, e)
	}
	h := api.Head{Refs: m.pick(4), Body: m.pick(3)}
	gaps, _ := gap.Gaps(a)
	i, e := gap.First(gaps, 1+h.Refs+h.Body)
	if e != api.OK {
		return
	}
	if m.g.Arena, e = gap.Take(a, gaps[i].At, h); e != api.OK {
		t.Fatalf("%v: error %d", m.g, e)
	}
	m.made++
	m.from = append(m.from, gaps[i].At)
}

// write changes a reference of a reachable object.
func (m *mutator) write(t *testing.T) {
	t.Helper()
	l, _ := tint.Reach(m.g.Arena, m.from)
	if len(l) == 0 {
		return
	}
	at, to := l[m.pick(len(l))], l[m.pick(len(l))]
	if m.pick(8) == 0 {
		to = -1
	}
	refs := headOf(m.g.Arena, at).Refs
	if refs == 0 {
		return
	}
	ref := m.pick(refs)
	h := written(m.g, at, ref, to)
	checkWrite(t, m.g, at, ref, to, h, api.OK)
	m.g = h
}

func (m *mutator) grow(t *testing.T) {
	t.Helper()
	h := grown(m.g, m.from)
	checkBoth(t, m.g, m.from, surviving(m.g, m.from), h)
	checkReachable(t, m.g, h, m.from)
	m.freed += len(starts(m.g.Arena)) - len(h.Old)
	m.g = h
}

// No reachable object is lost, although the heap is changed between the
// collections.
func TestNothingLostP151P152(t *testing.T) {
	pick := picker()
	made, freed := 0, 0
	for range 40 {
		m := mutator{g: api.Ages{Arena: slices.Concat([]uint64{free + 255*body}, make([]uint64, 255))}, pick: pick}
		for range 60 {
			m.allocate(t)
			m.write(t)
			m.write(t)
			if len(m.from) > 3 {
				m.from = slices.Delete(m.from, pick(2), 3)
			}
			if pick(6) == 0 {
				m.grow(t)
			}
			checkCheck(t, m.g, api.OK)
		}
		made += m.made
		freed += m.freed
	}
	if made < 1000 || freed < 300 {
		t.Errorf("only %d objects made and %d freed", made, freed)
	}
}
