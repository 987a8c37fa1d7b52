package play_test

import (
	"fmt"
	"math"
	"math/rand"
	"slices"
	"testing"

	"causeway/api"
	"causeway/judge"
	"causeway/play"
	"causeway/values"
	"causeway/world"
)

// anyScript: numbers of all kinds, with many that deliver, some great ones and some that are passed over.
func anyScript(seed int64, n int) []int {
	r := rand.New(rand.NewSource(seed))
	var l []int
	for range n {
		v := r.Intn(16 * 400)
		switch r.Intn(20) {
		case 0:
			v = r.Int()
		case 1:
			v = -v
		case 2, 3, 4, 5, 6, 7:
			v = v/16*16 + r.Intn(6)
		}
		l = append(l, v)
	}
	return l
}

// retold is a second telling of a number: which call it asks for.
func retold(w *world.World, places, v int) (string, func() error) {
	if v < 0 {
		return "nothing", nil
	}
	what := [...]string{"go", "go", "go", "go", "go", "go", "lose", "twice", "begin", "read", "put", "put", "drop", "commit", "beat", "again"}[v&15]
	q := v >> 4
	session, rest := q&7, q>>3
	key := []string{"k0", "k1", "k2", "k3", "k4"}[rest%5]
	op := []api.Op{
		{Key: key, Kind: api.Register, Text: fmt.Sprintf("t%d", q)},
		{Key: key, Kind: api.Register, Text: fmt.Sprintf("t%d", q)},
		{Key: key, Kind: api.Counter, N: q % 100},
		{Key: key, Kind: api.Set, Text: fmt.Sprintf("e%d", q%7), Remove: what == "drop"},
		{Key: key, Kind: api.Set, Text: fmt.Sprintf("e%d", q%7), Remove: what == "drop"},
	}[rest%5]
	fly := len(w.Flying())
	switch what {
	case "go", "lose", "twice":
		if fly == 0 {
			return "nothing", nil
		}
	}
	switch what {
	case "go":
		return what, func() error { return w.Deliver(q % fly) }
	case "lose":
		return what, func() error { return w.Drop(q % fly) }
	case "twice":
		return what, func() error { return w.Twice(q % fly) }
	case "begin":
		return what, func() error { return w.Begin(session, rest%places) }
	case "read":
		return what, func() error { _, err := w.Read(session, key); return err }
	case "put", "drop":
		return what, func() error { return w.Write(session, op) }
	case "commit":
		return what, func() error { return w.Commit(session) }
	case "beat":
		return what, func() error { return w.Beat(q % places) }
	}
	return what, func() error { return w.Again(q % places) }
}

func TestP100AnyScript(t *testing.T) {
	seed, done := int64(0), map[string]int{}
	for places := 1; places <= api.MaxPlaces; places++ {
		for _, shards := range []int{1, 2, api.MaxShards} {
			seed++
			script := anyScript(seed, api.MaxSteps+100)
			got, want := newWorld(t, places, shards), newWorld(t, places, shards)
			count := 0
			for _, v := range script[:api.MaxSteps] {
				name, call := retold(want, places, v)
				if call == nil {
					done[name]++
				} else if call() == nil {
					done[name]++
					count++
				} else {
					done["no "+name]++
				}
			}
			wantPlay(t, fmt.Sprint("seed ", seed), got, count, script...)
			if state(got) != state(want) {
				t.Errorf("seed %d: the world tells something else than the calls one by one", seed)
			}
		}
	}
	// Steps that never went well, or never went wrong, would tell nothing.
	for _, name := range []string{"nothing", "go", "lose", "twice", "begin", "read", "put", "drop", "commit", "beat", "again", "no begin", "no read", "no put", "no drop", "no commit", "no twice"} {
		if done[name] < 20 {
			t.Errorf("%s: %d times", name, done[name])
		}
	}
}

// keys that a play writes on, and one that it does not.
var keys = []string{"k0", "k1", "k2", "k3", "k4", "k5"}

// tell all keys at a place, by a session that has no transaction.
func tell(t *testing.T, w *world.World, s, p int) []api.Value {
	t.Helper()
	must(t, w.Begin(s, p))
	var l []api.Value
	for _, key := range keys {
		v, err := w.Read(s, key)
		must(t, err)
		l = append(l, v)
	}
	must(t, w.Abort(s))
	return l
}

// made is what all commits of events make of the keys.
func made(t *testing.T, events []world.Event) []api.Value {
	t.Helper()
	var all []api.Commit
	for _, e := range events {
		if len(e.C.Ops) > 0 {
			all = append(all, e.C)
		}
	}
	var l []api.Value
	for _, key := range keys {
		v, err := values.Of(key, all)
		must(t, err)
		l = append(l, v)
	}
	return l
}

// TestP102TellTheSame: behind any play; and where the world tells all events, it is what they make.
func TestP102TellTheSame(t *testing.T) {
	seed, settled, told := int64(1000), 0, 0
	for places := 1; places <= api.MaxPlaces; places++ {
		for _, shards := range []int{1, 2, 3, api.MaxShards} {
			for _, steps := range []int{30, 300, api.MaxSteps} {
				seed++
				w := newWorld(t, places, shards)
				play.Play(w, anyScript(seed, steps))
				if play.Settle(w) == 40 {
					continue
				}
				settled++
				for s := range api.MaxSessions {
					_ = w.Abort(s)
				}
				events := w.Events()
				must(t, judge.Check(places, events))
				want := tell(t, w, 0, 0)
				for p := range places {
					if got := tell(t, w, p, p); fmt.Sprint(got) != fmt.Sprint(want) {
						t.Errorf("seed %d: place %d tells %v, place 0 tells %v", seed, p, got, want)
					}
				}
				if len(events) < api.MaxEvents {
					told++
					if got := made(t, events); fmt.Sprint(got) != fmt.Sprint(want) {
						t.Errorf("seed %d: all tell %v, the events make %v", seed, want, got)
					}
				}
			}
		}
	}
	if settled < 60 || told < 40 {
		t.Errorf("%d worlds are settled, %d told all", settled, told)
	}
}

// TestP102ByName: what three places did that did not hear each other.
func TestP102ByName(t *testing.T) {
	w := newWorld(t, 3, 2)
	for p := range 3 {
		// e(q%7) is the same text of all three: q is p + 8*(3 + 5*rest), by 7.
		rest := []int{0, 4, 1}[p]
		wantPlay(t, "a place", w, 5, by(begin, p, p), by(write, p, 0), by(write, p, 2), by(write, p, 3+5*rest), by(commit, p, 0))
	}
	loseAll(t, w)
	want := []api.Value{{Kind: api.Register, Text: "t2"}, {}, {Kind: api.Counter, N: 16 + 17 + 18}, {Kind: api.Set, Set: []string{"e3"}}, {}, {}}
	if n := play.Settle(w); n != 1 {
		t.Errorf("Settle = %d", n)
	}
	for p := range 3 {
		if got := tell(t, w, 7, p); fmt.Sprint(got) != fmt.Sprint(want) {
			t.Errorf("place %d tells %v, want %v", p, got, want)
		}
	}
}

func TestP2SamePlay(t *testing.T) {
	for seed := range int64(5) {
		a, b := newWorld(t, 4, 3), newWorld(t, 4, 3)
		wantPlay(t, "second", b, play.Play(a, anyScript(seed, 1000)), anyScript(seed, 1000)...)
		if state(a) != state(b) {
			t.Errorf("seed %d: two plays tell two things", seed)
		}
		if m, n := play.Settle(a), play.Settle(b); m != n || state(a) != state(b) {
			t.Errorf("seed %d: settled in %d rounds and in %d", seed, m, n)
		}
	}
}

func TestP4Script(t *testing.T) {
	memory := anyScript(1, 200)
	kept := slices.Clone(memory)
	a, b := newWorld(t, 3, 2), newWorld(t, 3, 2)
	wantPlay(t, "a piece", a, play.Play(b, slices.Clone(memory[:150])), memory[:150]...)
	if !slices.Equal(memory, kept) {
		t.Error("the script is written into")
	}
	n := play.Play(a, memory[50:90])
	clear(memory)
	if m := play.Play(b, kept[50:90]); m != n || state(a) != state(b) {
		t.Error("what is not the script's is read, or kept")
	}
}

func TestP1Anything(t *testing.T) {
	wrong := []int{math.MinInt, math.MinInt + 1, -17, -16, -15, -1, math.MaxInt, math.MaxInt - 1}
	for what := range 16 {
		wrong = append(wrong, what, 16+what, math.MaxInt-what, math.MinInt+what)
	}
	// A world that nobody made has no places and no sessions.
	for _, w := range []*world.World{{}, newWorld(t, 1, 1), newWorld(t, api.MaxPlaces, api.MaxShards)} {
		if n := play.Play(w, nil); n != 0 {
			t.Errorf("Play(nil) = %d", n)
		}
		play.Play(w, wrong)
		play.Settle(w)
		play.Play(w, wrong)
	}
	none := &world.World{}
	if n := play.Play(none, wrong); n != 0 || play.Settle(none) != 0 {
		t.Errorf("%d steps in a world without places", n)
	}
}

// TestP1Ends: scripts that give a world as much to do as they can; each takes far less than a second.
func TestP1Ends(t *testing.T) {
	steps := func(f func(i int) int) []int {
		var l []int
		for i := range api.MaxSteps {
			l = append(l, f(i))
		}
		return l
	}
	for name, script := range map[string][]int{
		"beats, then again": steps(func(i int) int { return beat + i/(api.MaxSteps/2) }),
		"beats of all":      steps(func(i int) int { return num(beat, i) }),
		"one long play of a set": steps(func(i int) int {
			switch i % 14 {
			case 0:
				return by(begin, 0, 0)
			case 13:
				return by(commit, 0, 0)
			}
			return by(write+i%3, 0, 3+5*i)
		}),
		"reads of all": steps(func(i int) int {
			return []int{by(begin, i/4, i/4), by(read, i/4, i), by(write, i/4, i), by(commit, i/4, 0)}[i%4]
		}),
	} {
		w := newWorld(t, api.MaxPlaces, api.MaxShards)
		if n := play.Play(w, script); n == 0 {
			t.Errorf("%s: nothing is done", name)
		}
		play.Settle(w)
	}
}
