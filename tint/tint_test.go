package tint

import (
	"math"
	"slices"
	"testing"

	"cairnfield/api"
	"cairnfield/walk"
)

const (
	free = 1 << 48
	body = 1 << 16
)

// graph is a heap as a list of objects, with the word at which each of them
// starts.
type graph struct {
	objects []api.Object
	at      []int
	arena   []uint64
}

// build lays the objects one after the other; extra words are free.
func build(t *testing.T, l []api.Object, extra int) graph {
	t.Helper()
	g := graph{objects: l}
	n := 0
	for _, o := range l {
		g.at = append(g.at, n)
		n += long(o)
	}
	a, e := walk.Lay(l, n+extra)
	if e != api.OK {
		t.Fatalf("%v: error %d", l, e)
	}
	g.arena = a
	return g
}

func long(o api.Object) int {
	return 1 + len(o.Refs) + len(o.Body)
}

// words returns the words at which objects start.
func (g graph) words(indices []int) []int {
	var all []int
	for _, i := range indices {
		all = append(all, g.at[i])
	}
	return all
}

// reached says of each object whether it is reachable: what refers to it is
// looked for again and again, until nothing changes.
func (g graph) reached(from []int) []bool {
	is := make([]bool, len(g.objects))
	for _, i := range from {
		is[i] = true
	}
	for changed := true; changed; {
		changed = false
		for i, o := range g.objects {
			for _, to := range o.Refs {
				if is[i] && to >= 0 && !is[to] {
					is[to], changed = true, true
				}
			}
		}
	}
	return is
}

// paint sets the bits of all words of some objects.
func (g graph) paint(is []bool) []uint64 {
	m := make([]uint64, (len(g.arena)+63)/64)
	for i, o := range g.objects {
		for k := g.at[i]; is[i] && k < g.at[i]+long(o); k++ {
			m[k/64] |= 1 << (k % 64)
		}
	}
	return m
}

// trace follows P101 with the indices of objects. The top of its pile is the
// first element.
type trace struct {
	g            graph
	room         int
	is           []bool
	pile         []int
	over         bool
	passes, deep int
}

func (c *trace) touch(l []int) {
	for _, i := range l {
		if i < 0 || c.is[i] {
			continue
		}
		c.is[i] = true
		if len(c.pile) >= c.room {
			c.over = true
		} else {
			c.pile = append([]int{i}, c.pile...)
		}
		if len(c.pile) > c.deep {
			c.deep = len(c.pile)
		}
	}
}

func (c *trace) follow(l []int) {
	c.touch(l)
	for len(c.pile) != 0 {
		i := c.pile[0]
		c.pile = c.pile[1:]
		c.touch(c.g.objects[i].Refs)
	}
}

func (g graph) marked(from []int, room int) api.Marked {
	c := &trace{g: g, room: room, is: make([]bool, len(g.objects))}
	c.follow(from)
	for c.over {
		c.over = false
		c.passes++
		for i, o := range g.objects {
			if c.is[i] {
				c.follow(o.Refs)
			}
		}
	}
	return api.Marked{Marks: g.paint(c.is), Passes: c.passes, Deep: c.deep}
}

func equal(m, n api.Marked) bool {
	return slices.Equal(m.Marks, n.Marks) && m.Passes == n.Passes && m.Deep == n.Deep
}

// checkReach compares Reach and Words with the graph.
func checkReach(t *testing.T, g graph, from []int) {
	t.Helper()
	var want []int
	count := 0
	for i, is := range g.reached(from) {
		if is {
			want = append(want, g.at[i])
			count += long(g.objects[i])
		}
	}
	if got, e := Reach(g.arena, g.words(from)); !slices.Equal(got, want) || e != api.OK {
		t.Errorf("Reach(%v, %v): %v, error %d, not %v", g.objects, from, got, e, want)
	}
	if got, e := Words(g.arena, g.words(from)); got != count || e != api.OK {
		t.Errorf("Words(%v, %v): %d, error %d, not %d", g.objects, from, got, e, count)
	}
}

// checkMark compares Mark with the trace, and its marks with what is reachable.
func checkMark(t *testing.T, g graph, from []int, stack int) api.Marked {
	t.Helper()
	got, e := Mark(g.arena, g.words(from), stack)
	if want := g.marked(from, stack); !equal(got, want) || e != api.OK {
		t.Errorf("Mark(%v, %v, %d): %v, error %d, not %v", g.objects, from, stack, got, e, want)
	}
	if want := g.paint(g.reached(from)); !slices.Equal(got.Marks, want) {
		t.Errorf("Mark(%v, %v, %d): %v, but reachable are %v", g.objects, from, stack, got, want)
	}
	return got
}

// eachGraph calls check with all heaps of three objects with two references
// each, and some lists of objects from which one begins.
func eachGraph(t *testing.T, check func(g graph, from []int)) {
	lists := [][]int{nil, {0}, {1}, {2}, {1, 0}, {0, 2}, {2, 1}, {2, 2, 0}, {2, 0, 1}}
	for code := range 4 * 4 * 4 * 4 * 4 * 4 {
		l := make([]api.Object, 3)
		for i := range l {
			l[i].Refs = []int{code%4 - 1, code/4%4 - 1}
			l[i].Body = make([]uint64, i)
			code /= 16
		}
		g := build(t, l, 1)
		for _, from := range lists {
			check(g, from)
		}
	}
}

// eachLarge calls check with heaps that fill an arena, of objects of many
// sizes, some of them free, with references all over.
func eachLarge(t *testing.T, check func(g graph, from []int)) {
	seed := uint32(1)
	pick := func(n int) int {
		seed = seed*1664525 + 1013904223
		return int(seed>>8) % n
	}
	for round := range 120 {
		var l []api.Object
		var live []int
		for n := 0; ; {
			o := api.Object{Refs: make([]int, pick(2+round%5)), Body: make([]uint64, pick(3))}
			if pick(5) == 0 {
				o = api.Object{Free: true, Body: o.Body}
			} else {
				live = append(live, len(l))
			}
			if n += long(o); n > api.MaxWords {
				break
			}
			l = append(l, o)
		}
		live = slices.DeleteFunc(live, func(i int) bool { return i >= len(l) })
		for _, o := range l {
			for k := range o.Refs {
				o.Refs[k] = -1
				if pick(8) > 0 {
					o.Refs[k] = live[pick(len(live))]
				}
			}
		}
		var from []int
		for range pick(6) {
			from = append(from, live[pick(len(live))])
		}
		check(build(t, l, 0), from)
	}
}

func TestReachP100(t *testing.T) {
	eachGraph(t, func(g graph, from []int) { checkReach(t, g, from) })
	eachLarge(t, func(g graph, from []int) { checkReach(t, g, from) })
}

func TestReachExamplesP100(t *testing.T) {
	// The objects at words 0 and 4 refer to each other, and word 4 to word 8.
	a := []uint64{1, 5, free + body, 1, 2 + body, 1, 9, 3, 0, body, 1, 0}
	for _, c := range []struct {
		from, want []int
		words      int
	}{
		{nil, nil, 0},
		{[]int{0}, []int{0, 4, 8}, 7},
		{[]int{4}, []int{0, 4, 8}, 7},
		{[]int{8}, []int{8}, 1},
		{[]int{9}, []int{9}, 2},
		{[]int{11, 9, 11}, []int{9, 11}, 3},
		{[]int{9, 8, 4}, []int{0, 4, 8, 9}, 9},
	} {
		if got, e := Reach(a, c.from); !slices.Equal(got, c.want) || e != api.OK {
			t.Errorf("Reach(%v): %v, error %d", c.from, got, e)
		}
		if got, e := Words(a, c.from); got != c.words || e != api.OK {
			t.Errorf("Words(%v): %d, error %d", c.from, got, e)
		}
	}
}

// Data words that look like references or headers mean nothing.
func TestDataWordsP100(t *testing.T) {
	a := []uint64{2 * body, 4, 4, 0, free + 2*body, 4, 1}
	if got, e := Reach(a, []int{0}); !slices.Equal(got, []int{0}) || e != api.OK {
		t.Error(got, e)
	}
	for _, at := range []int{1, 2, 4, 5, 6, 7} {
		checkNone(t, a, []int{at})
	}
}

// In a full arena each word is an object, or one object takes all words.
func TestFullP100(t *testing.T) {
	checkReach(t, build(t, make([]api.Object, 256), 0), []int{255, 0, 128})
	great := build(t, []api.Object{{Refs: slices.Repeat([]int{0}, 255)}}, 0)
	checkReach(t, great, []int{0})
	if n, e := Words(great.arena, []int{0}); n != 256 || e != api.OK {
		t.Error(n, e)
	}
	chain := chainOf(128)
	checkReach(t, build(t, chain, 0), []int{0})
	checkReach(t, build(t, chain, 0), []int{100})
	checkReach(t, build(t, nil, 256), nil)
	checkReach(t, build(t, nil, 0), nil)
}

// A list of words may be longer than an arena.
func TestLongListP100(t *testing.T) {
	g := build(t, []api.Object{{}, {Refs: []int{0}}, {}}, 0)
	checkReach(t, g, slices.Repeat([]int{1}, 100000))
	checkMark(t, g, slices.Repeat([]int{1, 2}, 50000), 1)
}

// checkNone expects ErrNone of all functions, also with a stack of no size.
func checkNone(t *testing.T, a []uint64, from []int) {
	t.Helper()
	for _, stack := range []int{1, 0} {
		for i, e := range callAll(t, a, from, stack) {
			if e != api.ErrNone {
				t.Errorf("function %d of %v, %v, %d: error %d", i, a, from, stack, e)
			}
		}
	}
}

func TestNoObjectP100(t *testing.T) {
	a := []uint64{1 + body, 5, 0, free, 0, free + body, 0}
	for _, at := range []int{math.MinInt, -1 << 32, -2, -1, 1, 2, 3, 5, 6, 7, 8, 256, 257, 1 << 32, 1<<32 + 4, math.MaxInt} {
		for _, from := range [][]int{{at}, {0, at}, {at, 4}, {0, 4, 0, at}} {
			checkNone(t, a, from)
		}
	}
	checkNone(t, nil, []int{0})
}

// errorOf follows the list of errors of P100 and P101.
func errorOf(a []uint64, from []int, stack int) api.Errno {
	if e := walk.Check(a); e != api.OK {
		return e
	}
	spots, _ := walk.Spots(a)
	for _, at := range from {
		is := func(s api.Spot) bool { return s.At == at && !s.Head.Free }
		if !slices.ContainsFunc(spots, is) {
			return api.ErrNone
		}
	}
	if stack < 1 || stack > 256 {
		return api.ErrArg
	}
	return api.OK
}

// eachArena calls check with all short arenas of words that are headers,
// references, both or neither.
func eachArena(check func(a []uint64)) {
	level := [][]uint64{nil}
	for range 5 {
		var next [][]uint64
		for _, a := range level {
			check(a)
			for _, v := range []uint64{0, 1, 2, 3, body, free, free + body, math.MaxUint64} {
				next = append(next, append(slices.Clone(a), v))
			}
		}
		level = next
	}
}

func TestErrorsP100(t *testing.T) {
	check := func(a []uint64) {
		for _, from := range [][]int{nil, {0}, {1}, {2, 0}, {3}, {0, 4}, {-1}} {
			for _, stack := range []int{-1, 0, 1, 256, 257} {
				want := []api.Errno{errorOf(a, from, 1), errorOf(a, from, stack), errorOf(a, from, 1)}
				if got := callAll(t, a, from, stack); !slices.Equal(got, want) {
					t.Errorf("%v, %v, %d: errors %v, not %v", a, from, stack, got, want)
				}
			}
		}
	}
	eachArena(check)
	check(make([]uint64, 256))
	check(make([]uint64, 257))
	check(slices.Repeat([]uint64{math.MaxUint64}, 257))
}

// An object that is not reachable is checked all the same.
func TestErrorOfUnreachableP100(t *testing.T) {
	for _, c := range []struct {
		a    []uint64
		want api.Errno
	}{
		{[]uint64{0, 1, 9}, api.ErrNone},
		{[]uint64{0, 1, 4, free}, api.ErrNone},
		{[]uint64{0, 1 << 50}, api.ErrForm},
		{append(make([]uint64, 256), 1<<50), api.ErrLarge},
	} {
		for _, from := range [][]int{nil, {0}, {-1}} {
			if got := callAll(t, c.a, from, 0); !slices.Equal(got, slices.Repeat([]api.Errno{c.want}, 3)) {
				t.Errorf("%d words, %v: errors %v, not %d", len(c.a), from, got, c.want)
			}
		}
	}
}

func TestMarkP101(t *testing.T) {
	eachGraph(t, func(g graph, from []int) {
		for _, stack := range []int{1, 2, 3, 256} {
			checkMark(t, g, from, stack)
		}
	})
}

func TestMarkLargeP101(t *testing.T) {
	most := 0
	eachLarge(t, func(g graph, from []int) {
		for _, stack := range []int{1, 2, 3, 5, 8, 20, 100, 255, 256} {
			m := checkMark(t, g, from, stack)
			most = max(most, m.Passes)
			if m.Deep > stack || stack == 256 && m.Passes != 0 {
				t.Errorf("stack of %d words: %d deep, %d passes", stack, m.Deep, m.Passes)
			}
		}
	})
	if most < 3 {
		t.Errorf("the heaps need only %d passes", most)
	}
}

// chainOf returns n objects, each of which refers to the next one.
func chainOf(n int) []api.Object {
	l := make([]api.Object, n)
	for i := range l {
		l[i].Refs = []int{i + 1}
	}
	l[n-1].Refs = []int{-1}
	return l
}

// fan returns an object that refers to n others, which follow it.
func fan(n int) []api.Object {
	l := make([]api.Object, n+1)
	for i := range n {
		l[0].Refs = append(l[0].Refs, i+1)
	}
	return l
}

// ladder returns n steps, the lowest first: each step refers to a leaf of its
// own and to the step below it. The leaves are last.
func ladder(n int) []api.Object {
	l := make([]api.Object, 2*n)
	for i := 1; i < n; i++ {
		l[i].Refs = []int{n + i, i - 1}
	}
	return l
}

// refs returns objects with these references.
func refs(l ...[]int) []api.Object {
	all := make([]api.Object, len(l))
	for i, r := range l {
		all[i].Refs = r
	}
	return all
}

func TestMarkExamplesP101(t *testing.T) {
	for i, c := range []struct {
		l                   []api.Object
		from                []int
		stack, passes, deep int
	}{
		{nil, nil, 1, 0, 0},
		{chainOf(3), nil, 1, 0, 0},
		{chainOf(3), []int{0}, 1, 0, 1}, // the example of the chapter
		{chainOf(128), []int{0}, 1, 0, 1},
		{fan(2), []int{0}, 1, 1, 1},
		{fan(2), []int{0}, 2, 0, 2},
		{fan(100), []int{0}, 99, 1, 99},
		{fan(100), []int{0}, 100, 0, 100},
		{fan(100), []int{0}, 256, 0, 100},
		{make([]api.Object, 256), starts(256), 256, 0, 256},
		{make([]api.Object, 256), starts(256), 255, 1, 255},
		{make([]api.Object, 3), []int{1, 1, 1}, 1, 0, 1}, // the mark is set already
		{refs([]int{0, 0}), []int{0, 0}, 1, 0, 1},        // to itself
		{refs([]int{1, -1, 1}, nil), []int{0}, 1, 0, 1},  // null takes no room
		// All objects of the list are marked before the stack is emptied.
		{make([]api.Object, 2), []int{0, 1}, 1, 1, 1},
		// The last one is on top: object 2, with its two references, comes first.
		{refs([]int{1, 2}, nil, []int{3, 4}, nil, nil), []int{0}, 9, 0, 3},
		{refs([]int{2, 1}, nil, []int{3, 4}, nil, nil), []int{0}, 9, 0, 2},
		// In a pass the stack is emptied for each object: 3 and 4 do not meet.
		{refs(nil, []int{3}, []int{4}, nil, nil), []int{0, 1, 2}, 1, 1, 1},
		// Object 3 is marked in the first pass: it is visited in this pass if it
		// comes behind object 1, and in the second one otherwise.
		{refs(nil, []int{2, 3}, nil, []int{4, 5}, nil, nil), []int{0, 1}, 1, 2, 1},
		{refs([]int{4, 5}, nil, []int{3, 0}, nil, nil, nil), []int{1, 2}, 1, 3, 1},
		// A pass takes one step down, because the next one was visited before.
		{ladder(60), []int{59}, 1, 59, 1},
		{ladder(60), []int{59}, 2, 29, 2},
		{ladder(60), []int{59}, 59, 1, 59},
		{ladder(60), []int{59}, 60, 0, 60},
		// What a pass pushes counts for Deep, too.
		{refs(nil, nil, []int{3, 4}, nil, []int{5, 6, 7}, nil, nil, nil), []int{0, 1, 2}, 2, 2, 2},
		{refs(nil, []int{2}, []int{3, 4}, nil, nil), []int{0, 1}, 1, 2, 1},
	} {
		m := checkMark(t, build(t, c.l, 0), c.from, c.stack)
		if m.Passes != c.passes || m.Deep != c.deep {
			t.Errorf("%d: %d passes, %d deep, not %d and %d", i, m.Passes, m.Deep, c.passes, c.deep)
		}
	}
}

func starts(n int) []int {
	var all []int
	for i := range n {
		all = append(all, i)
	}
	return all
}

// Marks are those of all words of the arena, of the free ones too, and of all
// words of an object.
func TestMarksP101(t *testing.T) {
	for n := 1; n <= api.MaxWords; n++ {
		a := make([]uint64, n)
		a[0] = uint64(n-1) * body
		m, e := Mark(a, []int{0}, 1)
		none, f := Mark(a, nil, 1)
		want := make([]uint64, (n+63)/64)
		if !slices.Equal(none.Marks, want) || f != api.OK {
			t.Errorf("%d words: %v, error %d", n, none, f)
		}
		for k := range n {
			want[k/64] |= 1 << (k % 64)
		}
		if !slices.Equal(m.Marks, want) || e != api.OK {
			t.Errorf("%d words: %v, error %d", n, m, e)
		}
		a[0] = free + a[0]
		if m, e := Mark(a, nil, 1); len(m.Marks) != len(want) || e != api.OK {
			t.Errorf("%d free words: %v, error %d", n, m, e)
		}
	}
}

func TestMarkStackErrorP101(t *testing.T) {
	g := build(t, fan(3), 2)
	for stack := 1; stack <= 256; stack++ {
		checkMark(t, g, []int{0}, stack)
	}
	for _, stack := range []int{math.MinInt, -1, 0, 257, 258, 1<<32 + 1, math.MaxInt} {
		for _, from := range [][]int{nil, {0}} {
			if m, e := Mark(g.arena, from, stack); !equal(m, api.Marked{}) || e != api.ErrArg {
				t.Errorf("Mark(%v, %d): %v, error %d", from, stack, m, e)
			}
		}
		if m, e := Mark(nil, nil, stack); !equal(m, api.Marked{}) || e != api.ErrArg {
			t.Errorf("Mark of nothing, %d: %v, error %d", stack, m, e)
		}
	}
}
