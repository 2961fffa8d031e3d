// Package rules has tests of the rules that concern all packages.
package rules

import (
	"testing"

	"cairnfield/api"
)

func TestErrorsP5(t *testing.T) {
	for want, e := range []api.Errno{
		api.OK, api.ErrArg, api.ErrLarge, api.ErrForm, api.ErrRange,
		api.ErrNone, api.ErrThere, api.ErrFull, api.ErrHeld, api.ErrStale,
	} {
		if int(e) != want {
			t.Errorf("error %d has the number %d", want, e)
		}
	}
}

func TestKindsP5(t *testing.T) {
	for i, kind := range []int{
		api.OMake, api.OCollect, api.ORef, api.OSet, api.OGet, api.OPut, api.OPin,
		api.OUnpin, api.OPeek, api.OOpen, api.OUse, api.OShut, api.ODrop,
	} {
		if kind != i+1 {
			t.Errorf("kind %d has the number %d", i+1, kind)
		}
	}
}

func TestLimitsP5(t *testing.T) {
	for _, c := range []struct {
		name      string
		got, want int
	}{
		{"MaxWords", api.MaxWords, 256},
		{"MaxRoots", api.MaxRoots, 32},
		{"MaxPins", api.MaxPins, 16},
		{"MaxTimes", api.MaxTimes, 1000000},
		{"MaxHands", api.MaxHands, 16},
		{"Last", api.Last, 65535},
		{"MaxFaint", api.MaxFaint, 32},
		{"MaxOps", api.MaxOps, 200},
		{"MaxScript", api.MaxScript, 100},
		{"MaxWorkers", api.MaxWorkers, 16},
		{"MaxWork", api.MaxWork, 60},
	} {
		if c.got != c.want {
			t.Errorf("%s is %d, not %d", c.name, c.got, c.want)
		}
	}
}
