package head

import (
	"testing"

	"cairnfield/api"
)

// A panic in one of these calls fails the test.
func TestNoPanicP1(t *testing.T) {
	eachHead(func(h api.Head) {
		Check(h)
		Word(h)
		Long(h)
		Read(encoding(h))
	})
}

// All functions return the error of Check, and with it zero values.
func TestErrorsGiveZeroP3(t *testing.T) {
	eachHead(func(h api.Head) {
		want := Check(h)
		v, e := Word(h)
		n, f := Long(h)
		if e != want || f != want {
			t.Errorf("%+v: errors %d, %d, %d", h, want, e, f)
		}
		if want != api.OK && (v != 0 || n != 0) {
			t.Errorf("%+v: error %d, %d, %d", h, want, v, n)
		}
		if h, e := Read(encoding(h)); e != api.OK && h != (api.Head{}) {
			t.Errorf("%+v, error %d", h, e)
		}
	})
}
