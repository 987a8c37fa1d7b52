// Package given holds tests of what is given: packages api and plain stay as they are.
package given

import (
	"crypto/sha256"
	"encoding/hex"
	"errors"
	"os"
	"testing"

	"causeway/api"
	"causeway/plain"
)

func TestGivenFilesStayToTheByte(t *testing.T) {
	for file, want := range map[string]string{
		"../api/api.go":     "c7fa8e915e814662550971daba8eaeae49c9d5b1140e6ce449bc878ced5e5764",
		"../plain/plain.go": "45ea9a8ab2bee0b54d3f144a38db7d63fcb505248f195d8e6431349596ea52e7",
	} {
		data, err := os.ReadFile(file)
		if err != nil {
			t.Fatal(err)
		}
		sum := sha256.Sum256(data)
		if got := hex.EncodeToString(sum[:]); got != want {
			t.Errorf("%s: sum %s, want %s", file, got, want)
		}
	}
}

func TestP5Numbers(t *testing.T) {
	for _, c := range []struct {
		name      string
		got, want int
	}{
		{"MaxPlaces", api.MaxPlaces, 6}, {"MaxShards", api.MaxShards, 6}, {"MaxName", api.MaxName, 16},
		{"MaxText", api.MaxText, 60}, {"MaxTime", api.MaxTime, 1099511627776}, {"MaxOps", api.MaxOps, 12},
		{"MaxDots", api.MaxDots, 60}, {"MaxSessions", api.MaxSessions, 8}, {"MaxFlying", api.MaxFlying, 200},
		{"MaxWire", api.MaxWire, 6000}, {"MaxSteps", api.MaxSteps, 3000}, {"MaxEvents", api.MaxEvents, 300},
		{"MaxLines", api.MaxLines, 100}, {"Workers", api.Workers, 16},
		{"Register", api.Register, 1}, {"Counter", api.Counter, 2}, {"Set", api.Set, 3},
	} {
		if c.got != c.want {
			t.Errorf("%s is %d, want %d", c.name, c.got, c.want)
		}
	}
}

func TestP5Errors(t *testing.T) {
	for i, c := range []struct {
		err  error
		text string
	}{
		{api.ErrText, "causeway: text"}, {api.ErrBound, "causeway: bound"}, {api.ErrShape, "causeway: shape"},
		{api.ErrName, "causeway: name"}, {api.ErrNone, "causeway: none"}, {api.ErrExist, "causeway: exist"},
		{api.ErrFull, "causeway: full"}, {api.ErrSum, "causeway: sum"}, {api.ErrOld, "causeway: old"},
		{api.ErrHeld, "causeway: held"}, {api.ErrWait, "causeway: wait"}, {api.ErrKind, "causeway: kind"},
	} {
		if c.err.Error() != c.text {
			t.Errorf("error %q, want %q", c.err, c.text)
		}
		if code, at := plain.Code(c.err); code != i+1 || at != -1 {
			t.Errorf("%v: code %d at %d, want %d at -1", c.err, code, at, i+1)
		}
		fault := &api.Fault{At: 7, Err: c.err}
		if code, at := plain.Code(fault); code != i+1 || at != 7 || fault.Error() != c.text || !errors.Is(fault, c.err) {
			t.Errorf("fault of %v: code %d at %d, want %d at 7", c.err, code, at, i+1)
		}
	}
}
