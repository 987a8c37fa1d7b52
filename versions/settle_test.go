package versions

import (
	"fmt"
	"slices"
	"testing"

	"causeway/api"
)

// kept: how many ops, and dots that they name, are kept under a key.
func kept(v *Versions, key string) (ops, names int) {
	for _, c := range v.commits[key] {
		ops += len(c.Ops)
		for _, o := range c.Ops {
			names += len(o.Dots)
		}
	}
	return ops, names
}

func wantKept(t *testing.T, name string, v *Versions, key string, ops, names int) {
	t.Helper()
	if n, m := kept(v, key); n != ops || m != names {
		t.Errorf("%s: %d ops and %d dots are kept under %q, want %d and %d", name, n, m, key, ops, names)
	}
}

// TestP32PruneLetsGo: however long the play, what is kept of it is not more than what may be told.
func TestP32PruneLetsGo(t *testing.T) {
	v, err := New(2)
	if err != nil {
		t.Fatal(err)
	}
	for time := 1; time <= 100; time++ {
		ops := []api.Op{
			{At: 0, Key: "r", Kind: api.Register, Text: fmt.Sprint(time)},
			{At: 1, Key: "n", Kind: api.Counter, N: time},
			{At: 2, Key: "s", Kind: api.Set, Text: "a"},
			{At: 3, Key: "s", Kind: api.Set, Text: "a", Remove: true, Dots: []api.Dot{{Place: 0, Time: time, At: 2}}},
		}
		if err := v.Put(api.Commit{When: []int{time, 0}, Place: 0, Ops: ops}); err != nil {
			t.Fatal(err)
		}
	}
	wantKept(t, "not pruned", v, "s", 200, 100)
	if err := v.Prune([]int{90, 7}); err != nil {
		t.Fatal(err)
	}
	wantKept(t, "pruned in part: the first, the last, and what is open", v, "r", 2+10, 0)
	wantKept(t, "pruned in part: a sum, and what is open", v, "n", 1+10, 0)
	wantKept(t, "pruned in part: the first, what removes it, and what is open", v, "s", 2+20, 1+10)
	if err := v.Prune([]int{100, 0}); err != nil {
		t.Fatal(err)
	}
	wantKept(t, "pruned", v, "r", 2, 0)
	wantKept(t, "pruned", v, "n", 1, 0)
	wantKept(t, "pruned", v, "s", 2, 1)
	if got := v.Keys(); !slices.Equal(got, []string{"n", "r", "s"}) {
		t.Error(got)
	}
}

// TestP32PruneKeepsOpenDots: a dot that nobody has yet stays named, and one that is taken goes.
func TestP32PruneKeepsOpenDots(t *testing.T) {
	v, err := New(2)
	if err != nil {
		t.Fatal(err)
	}
	for _, c := range []api.Commit{
		{When: []int{1, 0}, Place: 0, Ops: []api.Op{
			{At: 0, Key: "s", Kind: api.Set, Text: "first"},
			{At: 1, Key: "s", Kind: api.Set, Text: "other"},
			{At: 2, Key: "t", Kind: api.Set, Text: "a"},
			{At: 3, Key: "s", Kind: api.Set, Text: "a", Remove: true, Dots: []api.Dot{
				{Place: 0, Time: 1, At: 1}, {Place: 0, Time: 1, At: 2}, {Place: 0, Time: 2, At: 0}, {Place: 1, Time: 1, At: 0},
			}},
		}},
		{When: []int{2, 0}, Place: 0, Ops: []api.Op{{At: 0, Key: "s", Kind: api.Set, Text: "a"}}},
	} {
		if err := v.Put(c); err != nil {
			t.Fatal(err)
		}
	}
	for _, c := range []struct {
		at         []int
		ops, names int
	}{
		{[]int{1, 0}, 4, 2}, // another text and another key go; what is open, and what may come, stay
		{[]int{2, 0}, 3, 1}, // what is removed goes, and its name
	} {
		if err := v.Prune(c.at); err != nil {
			t.Fatal(err)
		}
		wantKept(t, fmt.Sprint("pruned at ", c.at), v, "s", c.ops, c.names)
	}
	if err := v.Put(api.Commit{When: []int{0, 1}, Place: 1, Ops: []api.Op{{Key: "s", Kind: api.Set, Text: "a"}}}); err != nil {
		t.Fatal(err)
	}
	if got, err := v.Read("s", []int{2, 1}); err != nil || !slices.Equal(got.Set, []string{"first", "other"}) {
		t.Errorf("Read = %v, %v", got, err)
	}
}
