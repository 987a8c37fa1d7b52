package side_test

import (
	"fmt"
	"math"
	"math/rand"
	"reflect"
	"runtime"
	"slices"
	"sync"
	"testing"

	"causeway/api"
	"causeway/judge"
	"causeway/play"
	"causeway/side"
	"causeway/values"
	"causeway/world"
)

// anyScripts of many lengths, so that some are done long ahead of others.
func anyScripts(r *rand.Rand, n int) [][]int {
	var l [][]int
	for range n {
		var script []int
		for range r.Intn(600) {
			v := r.Intn(16 * 400)
			switch r.Intn(20) {
			case 0:
				v = -v
			case 1, 2, 3, 4, 5:
				v = v/16*16 + r.Intn(6)
			}
			script = append(script, v)
		}
		l = append(l, script)
	}
	return l
}

// playedAlone: a second telling, one behind the other.
func playedAlone(t *testing.T, places, shards int, scripts [][]int) []side.Told {
	t.Helper()
	var l []side.Told
	for _, script := range scripts {
		w, err := world.New(places, shards)
		if err != nil {
			t.Fatal(err)
		}
		steps := play.Play(w, script)
		l = append(l, side.Told{Events: w.Events(), Steps: steps})
	}
	return l
}

// commitsOf what was told, of each play.
func commitsOf(told []side.Told) [][]api.Commit {
	var l [][]api.Commit
	for _, p := range told {
		var commits []api.Commit
		for _, e := range p.Events {
			if len(e.C.Ops) > 0 {
				commits = append(commits, e.C)
			}
		}
		l = append(l, commits)
	}
	return l
}

// TestP112Same: by however many, and however many processors there are, it is what it is one by one.
func TestP112Same(t *testing.T) {
	defer runtime.GOMAXPROCS(runtime.GOMAXPROCS(0))
	r := rand.New(rand.NewSource(11))
	events, kinds := 0, map[int]int{}
	for _, processors := range []int{1, 2, 8} {
		runtime.GOMAXPROCS(processors)
		places, shards := 1+r.Intn(api.MaxPlaces), 1+r.Intn(api.MaxShards)
		scripts := anyScripts(r, 40)
		want := playedAlone(t, places, shards, scripts)
		lists := commitsOf(want)
		for workers := 1; workers <= api.Workers; workers++ {
			got, err := side.Plays(places, shards, scripts, workers)
			if err != nil || !reflect.DeepEqual(got, want) {
				t.Fatalf("by %d: plays tell something else, %v", workers, err)
			}
			for _, key := range []string{"k0", "k1", "k2", "k3", "k4", "k5"} {
				got, err := side.Values(key, lists, workers)
				if err != nil || len(got) != len(lists) {
					t.Fatalf("by %d: %v", workers, err)
				}
				for i, v := range got {
					if one, err := values.Of(key, lists[i]); err != nil || !reflect.DeepEqual(v, one) {
						t.Errorf("by %d: %s of number %d: %+v, want %+v, %v", workers, key, i, v, one, err)
					}
					kinds[v.Kind]++
				}
			}
		}
		for _, p := range want {
			events += len(p.Events)
			if err := judge.Check(places, p.Events); err != nil {
				t.Error(err)
			}
		}
	}
	// Plays that tell nothing would hold nothing.
	if events < 500 || len(kinds) != 4 {
		t.Errorf("%d events, kinds %v", events, kinds)
	}
}

// TestP112SameFault: of many lists that are wrong, the first one, by however many.
func TestP112SameFault(t *testing.T) {
	r := rand.New(rand.NewSource(12))
	wrong := [][]api.Commit{
		{{}},
		{commit([]int{1}, 3, count(1))},
		{commit([]int{1}, 0, api.Op{Key: "n"})},
		{commit([]int{1}, 0, api.Op{Kind: 1})},
	}
	errs := []error{api.ErrShape, api.ErrBound, api.ErrKind, api.ErrName}
	for range 40 {
		l := make([][]api.Commit, 100)
		at, want := -1, error(nil)
		for i := range l {
			l[i] = slices.Repeat(one(1), r.Intn(40))
			if n := r.Intn(60); n < len(wrong) {
				// One that is long ahead of its error comes behind others.
				l[i] = append(l[i], wrong[n]...)
				if at < 0 {
					at, want = i, errs[n]
				}
			}
		}
		for workers := 1; workers <= api.Workers; workers++ {
			got, err := side.Values("n", l, workers)
			if at < 0 {
				if err != nil || len(got) != len(l) {
					t.Errorf("%d, %v", len(got), err)
				}
				continue
			}
			wantFault(t, fmt.Sprint("by ", workers), got, err, at, want)
		}
	}
}

// TestP2AtOnce: calls that are made at once do not see each other.
func TestP2AtOnce(t *testing.T) {
	scripts := anyScripts(rand.New(rand.NewSource(13)), 12)
	want := playedAlone(t, 3, 2, scripts)
	lists := commitsOf(want)
	first, err := side.Values("k3", lists, 1)
	if err != nil {
		t.Fatal(err)
	}
	var calls sync.WaitGroup
	for workers := 1; workers <= api.Workers; workers++ {
		calls.Go(func() {
			if got, err := side.Plays(3, 2, scripts, workers); err != nil || !reflect.DeepEqual(got, want) {
				t.Errorf("by %d: plays tell something else, %v", workers, err)
			}
			if got, err := side.Values("k3", lists, workers); err != nil || !reflect.DeepEqual(got, first) {
				t.Errorf("by %d: %+v, %v, want %+v", workers, got, err, first)
			}
		})
	}
	calls.Wait()
}

// TestP4HandedOver: what is handed over is only read, and nothing behind a list's length.
func TestP4HandedOver(t *testing.T) {
	lists := func() [][]api.Commit {
		in := []api.Commit{commit([]int{1, 7}[:1], 0, []api.Op{count(4), {At: -7}}[:1]...), {Place: -7}}[:1]
		return [][]api.Commit{in, in, {{Place: -7}}, {{Place: -7}}}
	}
	scripts := func() [][]int { return [][]int{[]int{8, 10, 13, 8, 8}[:3], []int{14, 10}[:1], {8}, {8}} }
	l, s := lists(), scripts()
	for workers := 1; workers <= api.Workers; workers++ {
		v, err := side.Values("n", l[:2], workers)
		if err != nil || len(v) != 2 || v[0].N != 4 || v[1].N != 4 {
			t.Errorf("by %d: %+v, %v", workers, v, err)
		}
		p, err := side.Plays(2, 2, s[:2], workers)
		if err != nil || len(p) != 2 || p[0].Steps != 3 || p[1].Steps != 1 {
			t.Errorf("by %d: %+v, %v", workers, p, err)
		}
	}
	if !reflect.DeepEqual(l, lists()) || !reflect.DeepEqual(s, scripts()) {
		t.Error("what is handed over is written into")
	}
	if l[0][:2][1].Place != -7 || l[0][0].When[:2][1] != 7 || l[0][0].Ops[:2][1].At != -7 || s[0][:5][4] != 8 {
		t.Error("what is behind a list is written into")
	}
}

// TestP4Answers: new memory, of which no two lists share any.
func TestP4Answers(t *testing.T) {
	add := commit([]int{1}, 0, api.Op{Key: "n", Kind: api.Set, Text: "a"})
	lists := [][]api.Commit{{add}, {add}, {add, add}}
	const set = 16 * 192 // a number of session 0, and of key k4
	script := []int{8, set + 10, 13, 8, set + 9, set + 12, 13}
	ask := func() ([]api.Value, []side.Told) {
		v, err := side.Values("n", lists, 3)
		if err != nil {
			t.Fatal(err)
		}
		p, err := side.Plays(2, 1, [][]int{script, script, script}, 3)
		if err != nil {
			t.Fatal(err)
		}
		return v, p
	}
	v, p := ask()
	wantV, wantP := ask()
	if e := p[0].Events; len(e) != 2 || len(e[1].Reads) != 1 || len(e[1].Reads[0].V.Set) != 1 || len(e[1].C.Ops[0].Dots) != 1 {
		t.Fatalf("%+v", e)
	}
	v[0].Set[0] = "zz"
	_ = append(v[1].Set, "zz")
	for i := range p[0].Events {
		e := &p[0].Events[i]
		e.At[0], e.C.When[0] = 77, 77
		_, _, _ = append(e.At, 77), append(e.C.When, 77), append(e.C.Ops, api.Op{At: 77})
		for j := range e.C.Ops {
			e.C.Ops[j].Text = "zz"
			_ = append(e.C.Ops[j].Dots, api.Dot{At: 77})
			clear(e.C.Ops[j].Dots)
		}
		for j := range e.Reads {
			_ = append(e.Reads[j].V.Set, "zz")
			clear(e.Reads[j].V.Set)
		}
	}
	p[0].Steps = 77
	if !reflect.DeepEqual(v[1:], wantV[1:]) || !reflect.DeepEqual(p[1:], wantP[1:]) {
		t.Error("answers share memory")
	}
	for i, e := range p[1].Events {
		if !reflect.DeepEqual(e, wantP[1].Events[i]) {
			t.Errorf("event %d: %+v", i, e)
		}
	}
	if v, p := ask(); !reflect.DeepEqual(v, wantV) || !reflect.DeepEqual(p, wantP) {
		t.Error("another call tells something else")
	}
	if add.Ops[0].Text != "a" || add.When[0] != 1 {
		t.Error("an answer shares memory with what was handed over")
	}
}

// TestP1Anything: whatever is given, a call ends and does not panic.
func TestP1Anything(t *testing.T) {
	numbers := []int{math.MinInt, -1, 0, 1, 2, 6, 7, 16, 17, math.MaxInt}
	var steps []int
	for what := range 16 {
		steps = append(steps, what, -what, 16+what, math.MaxInt-what, math.MinInt+what)
	}
	lists := [][]api.Commit{
		nil, {{}}, make([]api.Commit, 200),
		{{When: make([]int, 1000)}, {When: []int{math.MinInt, math.MaxInt}, Place: math.MaxInt}},
		{{When: []int{1}, Place: math.MinInt, Ops: make([]api.Op, 1000)}},
		{{When: []int{1}, Ops: []api.Op{{Key: "n", Kind: api.Set, Remove: true, Dots: []api.Dot{{Place: -1}}}}}},
	}
	for _, workers := range numbers {
		for _, key := range []string{"", "n", "\x00", string(make([]byte, 1000))} {
			for i := range lists {
				_, _ = side.Values(key, lists[i:], workers)
				_, _ = side.Values(key, lists[i:i+1], workers)
			}
			_, _ = side.Values(key, make([][]api.Commit, 1000), workers)
		}
		for _, places := range numbers {
			for _, shards := range numbers {
				_, _ = side.Plays(places, shards, [][]int{steps, nil, steps}, workers)
				_, _ = side.Plays(places, shards, nil, workers)
			}
		}
		_, _ = side.Plays(1, 1, make([][]int, 1000), workers)
	}
}
