package session

import (
	"slices"
	"testing"

	"causeway/api"
	"causeway/place"
)

// A place refuses a transaction only at the end of its clock, by more commits
// than a test can make: here it refuses for an at that it never gave.
func TestP72EndsWithAnError(t *testing.T) {
	p, err := place.New(0, 2, 1)
	if err != nil {
		t.Fatal(err)
	}
	s, err := New(2)
	if err != nil {
		t.Fatal(err)
	}
	for i, c := range []struct {
		at   []int
		want error
	}{
		{[]int{0, 1}, api.ErrWait},
		{[]int{0}, api.ErrShape},
		{[]int{-1, 0}, api.ErrBound},
	} {
		if _, err := s.Begin(p); err != nil {
			t.Fatal(err)
		}
		if err := s.Add("n", 1); err != nil {
			t.Fatal(err)
		}
		s.at = c.at
		got, l, err := s.Commit()
		if len(got.When) != 0 || len(got.Ops) != 0 || len(l) != 0 || err != c.want {
			t.Errorf("%d: %+v, %v, %v, want %v", i, got, l, err, c.want)
		}
		if s.Open() || !slices.Equal(s.Token(), []int{0, 0}) || p.Clock() != 0 {
			t.Errorf("%d: open %v, token %v, clock %d", i, s.Open(), s.Token(), p.Clock())
		}
		if err := s.Abort(); err != api.ErrNone {
			t.Errorf("%d: Abort = %v", i, err)
		}
	}
}
