// Package word: an arena of words: see ../shared/doc/01-word.md.
package word

import "cairnfield/api"

const bytesPerWord = 8

// New returns an arena of n words that are all 0.
func New(n int) ([]uint64, api.Errno) {
	if n < 0 || n > api.MaxWords {
		return nil, api.ErrRange
	}
	return make([]uint64, n), api.OK
}

// Load returns word number at.
func Load(a []uint64, at int) (uint64, api.Errno) {
	if e := checkWord(a, at); e != api.OK {
		return 0, e
	}
	return a[at], api.OK
}

// Store returns the arena with word number at set to v.
func Store(a []uint64, at int, v uint64) ([]uint64, api.Errno) {
	if e := checkWord(a, at); e != api.OK {
		return nil, e
	}
	b := clone(a)
	b[at] = v
	return b, api.OK
}

// Move returns the arena with the n words from from on copied to the n words
// from to on. The two ranges may overlap.
func Move(a []uint64, from, to, n int) ([]uint64, api.Errno) {
	if e := checkRange(a, from, n); e != api.OK {
		return nil, e
	}
	if e := checkRange(a, to, n); e != api.OK {
		return nil, e
	}
	b := clone(a)
	// Reading from the untouched argument makes overlapping ranges harmless.
	copy(b[to:to+n], a[from:from+n])
	return b, api.OK
}

// Fill returns the arena with the n words from at on set to v.
func Fill(a []uint64, at, n int, v uint64) ([]uint64, api.Errno) {
	if e := checkRange(a, at, n); e != api.OK {
		return nil, e
	}
	b := clone(a)
	for i := at; i < at+n; i++ {
		b[i] = v
	}
	return b, api.OK
}

// Bytes returns the words as bytes, least significant byte first.
func Bytes(a []uint64) (string, api.Errno) {
	if e := checkSize(a); e != api.OK {
		return "", e
	}
	out := make([]byte, 0, bytesPerWord*len(a))
	for _, v := range a {
		for range bytesPerWord {
			out = append(out, byte(v))
			v >>= 8
		}
	}
	return string(out), api.OK
}

// Words returns the arena whose Bytes are s.
func Words(s string) ([]uint64, api.Errno) {
	if len(s) > bytesPerWord*api.MaxWords {
		return nil, api.ErrLarge
	}
	if len(s)%bytesPerWord != 0 {
		return nil, api.ErrForm
	}
	a := make([]uint64, len(s)/bytesPerWord)
	for i := range a {
		a[i] = oneWord(s[bytesPerWord*i : bytesPerWord*(i+1)])
	}
	return a, api.OK
}

// Valid reports whether the range of n words that starts at word at is valid
// in an arena of the given number of words. It is exported because the
// packages above use ranges, too.
func Valid(words, at, n int) bool {
	// n is compared with the words that remain, because at+n may overflow.
	return at >= 0 && at <= words && n >= 0 && n <= words-at
}

// Increasing reports whether a list of words is strictly increasing. It is
// exported because the packages above have such lists.
func Increasing(l []int) bool {
	for i := 1; i < len(l); i++ {
		if l[i] <= l[i-1] {
			return false
		}
	}
	return true
}

// oneWord reads its bytes from the last to the first, because the last one is
// the most significant.
func oneWord(s string) uint64 {
	v := uint64(0)
	for i := len(s) - 1; i >= 0; i-- {
		v = v<<8 | uint64(s[i])
	}
	return v
}

func checkSize(a []uint64) api.Errno {
	if len(a) > api.MaxWords {
		return api.ErrLarge
	}
	return api.OK
}

func checkWord(a []uint64, at int) api.Errno {
	if e := checkSize(a); e != api.OK {
		return e
	}
	if at < 0 || at >= len(a) {
		return api.ErrRange
	}
	return api.OK
}

func checkRange(a []uint64, at, n int) api.Errno {
	if e := checkSize(a); e != api.OK {
		return e
	}
	if !Valid(len(a), at, n) {
		return api.ErrRange
	}
	return api.OK
}

// clone gives the result memory of its own, so that the argument is neither
// changed nor shared.
func clone(a []uint64) []uint64 {
	b := make([]uint64, len(a))
	copy(b, a)
	return b
}
