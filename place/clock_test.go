package place

import (
	"slices"
	"testing"

	"causeway/api"
)

// A clock comes to its end by more commits than a test can make.
func TestP61ClockAtItsEnd(t *testing.T) {
	p, err := New(0, 2, 1)
	if err != nil {
		t.Fatal(err)
	}
	p.clock = api.MaxTime - 1
	op := api.Op{Key: "a", Kind: api.Counter, N: 1}
	c, l, err := p.Commit([]int{0, 0}, []api.Op{op})
	if err != nil || !slices.Equal(c.When, []int{api.MaxTime, 0}) || len(l) != 1 || l[0].Time != api.MaxTime {
		t.Errorf("the last one: %+v, %+v, %v", c, l, err)
	}
	for i, c := range []struct {
		at   []int
		ops  []api.Op
		want error
	}{
		{[]int{0, 0}, []api.Op{op}, api.ErrBound},
		{[]int{0, 0}, nil, api.ErrBound},
		{[]int{0, 0}, []api.Op{{}}, api.ErrBound},
		{[]int{0, 1}, []api.Op{op}, api.ErrWait},
		{[]int{0}, []api.Op{op}, api.ErrShape},
	} {
		if got, l, err := p.Commit(c.at, c.ops); len(got.When) != 0 || len(l) != 0 || err != c.want {
			t.Errorf("%d: %+v, %+v, %v, want %v", i, got, l, err, c.want)
		}
	}
	if p.Clock() != api.MaxTime {
		t.Errorf("clock %d", p.Clock())
	}
	if l := p.Beat(); len(l) != 1 || l[0].Time != api.MaxTime || l[0].Seq != 2 {
		t.Errorf("beat %+v", l)
	}
	v, err := p.Read("a", p.Snapshot())
	if err != nil || v.N != 1 {
		t.Errorf("read %+v, %v", v, err)
	}
}
