package head

import (
	"math"
	"testing"

	"cairnfield/api"
)

// edges are the numbers around the bounds of the fields and of an object, and
// those that lose bits or overflow if they are used unchecked.
func edges() []int {
	return []int{math.MinInt, -1 << 32, -65536, -1, 0, 1, 2, 127, 128, 129, 254, 255, 256, 257,
		65534, 65535, 65536, 65537, 1 << 32, 1 << 48, math.MaxInt}
}

// eachHead calls check with all headers whose fields are edges.
func eachHead(check func(h api.Head)) {
	for _, free := range []bool{false, true} {
		for _, refs := range edges() {
			for _, body := range edges() {
				for _, tag := range edges() {
					check(api.Head{Refs: refs, Body: body, Tag: tag, Free: free})
				}
			}
		}
	}
}

// eachSize calls check with all headers whose Refs and Body are in range.
func eachSize(check func(h api.Head)) {
	for _, free := range []bool{false, true} {
		for refs := range api.MaxWords + 1 {
			for body := range api.MaxWords + 1 {
				check(api.Head{Refs: refs, Body: body, Free: free})
			}
		}
	}
}

// wanted is the error of a header, field by field as P30 lists them.
func wanted(h api.Head) api.Errno {
	switch {
	case h.Refs < 0, h.Refs > 256, h.Body < 0, h.Body > 256, h.Tag < 0, h.Tag > 65535:
		return api.ErrRange
	case h.Free && h.Refs != 0, h.Free && h.Tag != 0:
		return api.ErrForm
	case h.Refs+h.Body > 255:
		return api.ErrLarge
	}
	return api.OK
}

// encoding follows the sum of P31.
func encoding(h api.Head) uint64 {
	v := uint64(h.Refs) + 65536*uint64(h.Body) + 4294967296*uint64(h.Tag)
	if h.Free {
		v += 281474976710656
	}
	return v
}

func checkCheck(t *testing.T, h api.Head) {
	t.Helper()
	if e := Check(h); e != wanted(h) {
		t.Errorf("Check(%+v): error %d", h, e)
	}
}

func TestCheckP30(t *testing.T) {
	eachHead(func(h api.Head) { checkCheck(t, h) })
	eachSize(func(h api.Head) { checkCheck(t, h) })
}

func TestCheckOrderP30(t *testing.T) {
	for _, c := range []struct {
		h    api.Head
		want api.Errno
	}{
		{api.Head{}, api.OK},
		{api.Head{Free: true}, api.OK},
		{api.Head{Refs: 255}, api.OK},
		{api.Head{Body: 255, Tag: 65535}, api.OK},
		{api.Head{Body: 255, Free: true}, api.OK},
		{api.Head{Refs: 127, Body: 128}, api.OK},
		{api.Head{Refs: 256}, api.ErrLarge},
		{api.Head{Body: 256}, api.ErrLarge},
		{api.Head{Body: 256, Free: true}, api.ErrLarge},
		{api.Head{Refs: 128, Body: 128}, api.ErrLarge},
		{api.Head{Refs: 256, Body: 256}, api.ErrLarge},
		{api.Head{Refs: 1, Free: true}, api.ErrForm},
		{api.Head{Tag: 1, Free: true}, api.ErrForm},
		{api.Head{Refs: 256, Free: true}, api.ErrForm},
		{api.Head{Body: 256, Tag: 1, Free: true}, api.ErrForm},
		{api.Head{Refs: 257, Free: true}, api.ErrRange},
		{api.Head{Refs: 1, Tag: 65536, Free: true}, api.ErrRange},
		{api.Head{Refs: 256, Body: -1}, api.ErrRange},
		{api.Head{Refs: math.MaxInt, Body: math.MaxInt}, api.ErrRange},
	} {
		if e := Check(c.h); e != c.want {
			t.Errorf("Check(%+v): error %d, not %d", c.h, e, c.want)
		}
	}
}

func checkLong(t *testing.T, h api.Head) {
	t.Helper()
	want := 0
	if wanted(h) == api.OK {
		want = 1 + h.Refs + h.Body
	}
	if n, e := Long(h); n != want || e != wanted(h) {
		t.Errorf("Long(%+v): %d, error %d", h, n, e)
	}
}

func TestLongP30(t *testing.T) {
	eachHead(func(h api.Head) { checkLong(t, h) })
	eachSize(func(h api.Head) { checkLong(t, h) })
}

func checkWord(t *testing.T, h api.Head) {
	t.Helper()
	want := uint64(0)
	if wanted(h) == api.OK {
		want = encoding(h)
	}
	if v, e := Word(h); v != want || e != wanted(h) {
		t.Errorf("Word(%+v): %d, error %d", h, v, e)
	}
}

func TestWordP31(t *testing.T) {
	eachHead(func(h api.Head) { checkWord(t, h) })
	eachSize(func(h api.Head) { checkWord(t, h) })
}

func TestWordExamplesP31(t *testing.T) {
	for _, c := range []struct {
		h    api.Head
		want uint64
	}{
		{api.Head{}, 0},
		{api.Head{Refs: 1, Body: 2}, 131073},
		{api.Head{Tag: 1}, 1 << 32},
		{api.Head{Tag: 65535}, 65535 << 32},
		{api.Head{Free: true}, 1 << 48},
		{api.Head{Refs: 3, Body: 4, Tag: 5}, 3 + 4<<16 + 5<<32},
		{api.Head{Body: 255, Free: true}, 255<<16 + 1<<48},
	} {
		if v, e := Word(c.h); v != c.want || e != api.OK {
			t.Errorf("Word(%+v): %d, error %d", c.h, v, e)
		}
	}
}

// checkRead expects the header h where its encoding is v and it is valid, and
// an error otherwise.
func checkRead(t *testing.T, v uint64, h api.Head) {
	t.Helper()
	want, wantError := h, api.OK
	if wanted(h) != api.OK || encoding(h) != v {
		want, wantError = api.Head{}, api.ErrForm
	}
	if got, e := Read(v); got != want || e != wantError {
		t.Errorf("Read(%d): %+v, error %d", v, got, e)
	}
}

// Only fields below 2^16 can be told apart in an encoding.
func TestReadP31(t *testing.T) {
	eachHead(func(h api.Head) {
		if uint64(h.Refs) < 65536 && uint64(h.Body) < 65536 && uint64(h.Tag) < 65536 {
			checkRead(t, encoding(h), h)
		}
	})
	eachSize(func(h api.Head) { checkRead(t, encoding(h), h) })
	for tag := range 65536 {
		h := api.Head{Refs: 1, Tag: tag}
		checkRead(t, encoding(h), h)
	}
}

// Each single bit, alone and added to an encoding, leads to a header or not.
func TestReadBitsP31(t *testing.T) {
	for bit := range 64 {
		v := uint64(1) << bit
		valid := bit < 8 || bit >= 16 && bit < 24 || bit >= 32 && bit <= 48
		if h, e := Read(v); valid != (e == api.OK) || valid != (encoding(h) == v) {
			t.Errorf("Read of bit %d: %+v, error %d", bit, h, e)
		}
	}
	for _, v := range []uint64{1, 131073, 1 << 32, 1 << 48, 255<<16 + 1<<48, 5 << 32} {
		for bit := 49; bit < 64; bit++ {
			if h, e := Read(v + 1<<bit); h != (api.Head{}) || e != api.ErrForm {
				t.Errorf("Read(%d): %+v, error %d", v+1<<bit, h, e)
			}
		}
	}
}

func TestReadInvalidP31(t *testing.T) {
	for _, v := range []uint64{
		256, 257, 65535, 256 << 16, 257 << 16, 65535 << 16, 128 + 128<<16, 255 + 1<<16,
		1<<48 + 1, 1<<48 + 1<<32, 1<<48 + 256<<16, 1 << 49, 3 << 48, 1 << 63, math.MaxUint64,
	} {
		if h, e := Read(v); h != (api.Head{}) || e != api.ErrForm {
			t.Errorf("Read(%d): %+v, error %d", v, h, e)
		}
	}
}
