package side_test

import (
	"errors"
	"fmt"
	"math"
	"reflect"
	"slices"
	"testing"

	"causeway/api"
	"causeway/play"
	"causeway/side"
	"causeway/values"
	"causeway/world"
)

func count(n int) api.Op { return api.Op{Key: "n", Kind: api.Counter, N: n} }

func commit(when []int, p int, ops ...api.Op) api.Commit {
	return api.Commit{When: when, Place: p, Ops: ops}
}

// one list that makes a counter of n.
func one(n int) []api.Commit { return []api.Commit{commit([]int{1}, 0, count(n))} }

// wantFault of an error: at a place, or (below 0) bare; l is what came beside it.
func wantFault[T any](t *testing.T, name string, l []T, err error, at int, want error) {
	t.Helper()
	if len(l) != 0 {
		t.Errorf("%s: with an error: %v", name, l)
	}
	if at < 0 {
		if err != want {
			t.Errorf("%s: %v, want %v, bare", name, err, want)
		}
		return
	}
	f, ok := err.(*api.Fault)
	if !ok || f.At != at || f.Err != want {
		t.Errorf("%s: %#v, want %v at %d", name, err, want, at)
	}
}

// byAll: of each number of workers.
func byAll(t *testing.T, ask func(workers int)) {
	t.Helper()
	for workers := 1; workers <= api.Workers; workers++ {
		ask(workers)
	}
}

// wrongWorkers and wrong sizes of a world.
var (
	wrongWorkers = []int{math.MinInt, -1, 0, api.Workers + 1, 100, math.MaxInt}
	wrongSizes   = [][2]int{{0, 1}, {1, 0}, {-1, 1}, {1, -1}, {7, 1}, {1, 7}, {math.MaxInt, 1}, {1, math.MaxInt}, {math.MinInt, math.MinInt}}
)

func TestP110Values(t *testing.T) {
	add := api.Op{Key: "n", Kind: api.Set, Text: "b"}
	lists := [][]api.Commit{
		one(5),
		nil,
		{},
		append(one(5), one(5)...), // twice: it counts once
		{commit([]int{0, 1}, 1, count(2)), commit([]int{1, 0}, 0, count(3))}, // of two places, beside lists of one
		{commit([]int{1}, 0, api.Op{Key: "n", Kind: api.Register, Text: "t"})},
		{commit([]int{1}, 0, add), commit([]int{2}, 0, api.Op{Key: "n", Kind: api.Set, Text: "a"})},
		{commit([]int{1}, 0, api.Op{Key: "other", Kind: api.Counter, N: 9})},
		one(-7),
	}
	want := []api.Value{
		{Kind: api.Counter, N: 5}, {}, {}, {Kind: api.Counter, N: 5}, {Kind: api.Counter, N: 5},
		{Kind: api.Register, Text: "t"}, {Kind: api.Set, Set: []string{"a", "b"}}, {}, {Kind: api.Counter, N: -7},
	}
	byAll(t, func(workers int) {
		if got, err := side.Values("n", lists, workers); err != nil || !reflect.DeepEqual(got, want) {
			t.Errorf("by %d: %+v, %v, want %+v", workers, got, err, want)
		}
		for _, l := range [][][]api.Commit{nil, {}} {
			if got, err := side.Values("n", l, workers); err != nil || len(got) != 0 {
				t.Errorf("by %d: of nothing %+v, %v", workers, got, err)
			}
		}
	})
}

// TestP110Bounds: 100 lists, and not more.
func TestP110Bounds(t *testing.T) {
	var l [][]api.Commit
	for i := range 101 {
		l = append(l, one(i))
	}
	byAll(t, func(workers int) {
		got, err := side.Values("n", l[:100], workers)
		if err != nil || len(got) != 100 {
			t.Fatalf("by %d: %d, %v", workers, len(got), err)
		}
		for i, v := range got {
			if v.Kind != api.Counter || v.N != i {
				t.Errorf("by %d: number %d is %+v", workers, i, v)
			}
		}
		got, err = side.Values("n", l, workers)
		wantFault(t, "101", got, err, -1, api.ErrBound)
	})
}

// TestP110Order: the first error that is so is told.
func TestP110Order(t *testing.T) {
	bad, many := [][]api.Commit{{{}}}, make([][]api.Commit, 101)
	many[0] = bad[0]
	for _, workers := range wrongWorkers {
		got, err := side.Values("N", many, workers)
		wantFault(t, fmt.Sprint("all wrong by ", workers), got, err, -1, api.ErrShape)
		got, err = side.Values("n", nil, workers)
		wantFault(t, fmt.Sprint("by ", workers), got, err, -1, api.ErrShape)
	}
	byAll(t, func(workers int) {
		got, err := side.Values("N", many, workers)
		wantFault(t, "many, no name", got, err, -1, api.ErrBound)
		for _, key := range []string{"", "N", "a b", "\xff", "é", "12345678901234567"} {
			for _, l := range [][][]api.Commit{nil, bad, {one(1)}} {
				got, err = side.Values(key, l, workers)
				wantFault(t, fmt.Sprintf("key %q", key), got, err, -1, api.ErrName)
			}
		}
		got, err = side.Values("n", bad, workers)
		wantFault(t, "a list", got, err, 0, api.ErrShape)
	})
}

// TestP110Faults: at the number of the list, whatever number its commit has there.
func TestP110Faults(t *testing.T) {
	good := one(1)
	for _, c := range []struct {
		name string
		l    []api.Commit
		want error
	}{
		{"no vector", []api.Commit{good[0], good[0], {}}, api.ErrShape},
		{"a time", []api.Commit{good[0], commit([]int{-1}, 0, count(1))}, api.ErrBound},
		{"no such place", []api.Commit{commit([]int{1}, 1, count(1))}, api.ErrBound},
		{"no ops", []api.Commit{commit([]int{1}, 0)}, api.ErrShape},
		{"an op's name", []api.Commit{good[0], commit([]int{2}, 0, count(1), api.Op{At: 1, Key: "N"})}, api.ErrName},
		{"an op's kind", []api.Commit{good[0], commit([]int{2}, 0, api.Op{Key: "n", Kind: 4})}, api.ErrKind},
		{"other places", []api.Commit{good[0], commit([]int{1, 1}, 0, count(1))}, api.ErrShape},
	} {
		byAll(t, func(workers int) {
			for _, at := range []int{0, 1, 42, 98} {
				l := slices.Repeat([][]api.Commit{good}, 100)
				l[at] = c.l
				// A later one has another error, and less to look at.
				l[99] = []api.Commit{commit([]int{api.MaxTime + 1}, 0, count(1))}
				if c.want == api.ErrBound {
					l[99] = []api.Commit{{}}
				}
				got, err := side.Values("n", l, workers)
				wantFault(t, fmt.Sprintf("%s by %d", c.name, workers), got, err, at, c.want)
			}
		})
	}
}

func TestP111Plays(t *testing.T) {
	const begin, write, again = 8, 10, 15
	commits := 13
	long := slices.Repeat([]int{again}, api.MaxSteps+50)
	// Without an op, a transaction is an event, too.
	many := slices.Repeat([]int{begin, commits}, api.MaxEvents+20)
	scripts := [][]int{{begin, write, commits}, nil, {}, {-1, math.MinInt}, long, many, {write, commits, begin, commits}, {begin, write, commits}}
	byAll(t, func(workers int) {
		got, err := side.Plays(2, 1, scripts, workers)
		if err != nil || len(got) != len(scripts) {
			t.Fatalf("by %d: %d, %v", workers, len(got), err)
		}
		for i, want := range [][2]int{{3, 1}, {0, 0}, {0, 0}, {0, 0}, {api.MaxSteps, 0}, {2 * (api.MaxEvents + 20), api.MaxEvents}, {2, 1}, {3, 1}} {
			if got[i].Steps != want[0] || len(got[i].Events) != want[1] {
				t.Errorf("by %d: number %d: %d steps, %d events, want %v", workers, i, got[i].Steps, len(got[i].Events), want)
			}
		}
		// The same script twice: each has a world of its own, so that the clock is at 1.
		want := world.Event{At: []int{0, 0}, C: api.Commit{When: []int{1, 0}, Ops: []api.Op{{Key: "k0", Kind: api.Register, Text: "t0"}}}}
		for _, i := range []int{0, 7} {
			if !reflect.DeepEqual(got[i].Events, []world.Event{want}) {
				t.Errorf("by %d: %+v, want %+v", workers, got[i].Events, want)
			}
		}
		for _, l := range [][][]int{nil, {}} {
			if got, err := side.Plays(2, 1, l, workers); err != nil || len(got) != 0 {
				t.Errorf("by %d: of nothing %+v, %v", workers, got, err)
			}
		}
	})
}

// TestP111Bounds: 100 scripts, and not more; as many beats as its number tell one from the other.
func TestP111Bounds(t *testing.T) {
	var l [][]int
	for i := range 101 {
		l = append(l, slices.Repeat([]int{14}, i))
	}
	byAll(t, func(workers int) {
		got, err := side.Plays(1, 1, l[:100], workers)
		if err != nil || len(got) != 100 {
			t.Fatalf("by %d: %d, %v", workers, len(got), err)
		}
		for i, told := range got {
			if told.Steps != i || len(told.Events) != 0 {
				t.Errorf("by %d: number %d is %+v", workers, i, told)
			}
		}
		got, err = side.Plays(1, 1, l, workers)
		wantFault(t, "101", got, err, -1, api.ErrBound)
	})
}

// TestP111Order: ErrShape ahead of what is not so few, and of the world's error, which is told without a script, too.
func TestP111Order(t *testing.T) {
	many := make([][]int, 101)
	for _, workers := range wrongWorkers {
		for _, l := range [][][]int{nil, many} {
			for _, size := range [][2]int{{0, 1}, {1, 1}} {
				got, err := side.Plays(size[0], size[1], l, workers)
				wantFault(t, fmt.Sprint("by ", workers), got, err, -1, api.ErrShape)
			}
		}
	}
	byAll(t, func(workers int) {
		for _, size := range wrongSizes {
			for _, l := range [][][]int{nil, {{8}}, make([][]int, 100), many} {
				got, err := side.Plays(size[0], size[1], l, workers)
				wantFault(t, fmt.Sprint("size ", size), got, err, -1, api.ErrBound)
			}
		}
	})
}

// TestP111Sizes: each size of a world is taken as it is.
func TestP111Sizes(t *testing.T) {
	beatAndGo := []int{14, 30, 46, 0, 16, 15, 8, 138, 13}
	for places := 1; places <= api.MaxPlaces; places++ {
		for shards := 1; shards <= api.MaxShards; shards++ {
			w, err := world.New(places, shards)
			if err != nil {
				t.Fatal(err)
			}
			want := side.Told{Steps: play.Play(w, beatAndGo), Events: w.Events()}
			got, err := side.Plays(places, shards, [][]int{beatAndGo}, 3)
			if err != nil || !reflect.DeepEqual(got, []side.Told{want}) {
				t.Errorf("%d, %d: %+v, %v, want %+v", places, shards, got, err, want)
			}
		}
	}
}

// TestP3Errors: they are those of package api, and may be asked for.
func TestP3Errors(t *testing.T) {
	_, err := side.Values("n", [][]api.Commit{nil, {commit([]int{1}, 0, api.Op{Key: "n"})}}, 2)
	_, of := values.Of("n", []api.Commit{commit([]int{1}, 0, api.Op{Key: "n"})})
	if !errors.Is(err, api.ErrKind) || !errors.Is(of, api.ErrKind) || err.Error() != api.ErrKind.Error() {
		t.Errorf("%v, %v", err, of)
	}
}
