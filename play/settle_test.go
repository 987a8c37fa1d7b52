package play_test

import (
	"fmt"
	"math/rand"
	"slices"
	"testing"

	"causeway/api"
	"causeway/play"
	"causeway/world"
)

func wantSettle(t *testing.T, name string, w *world.World, want int) {
	t.Helper()
	if n := play.Settle(w); n != want {
		t.Errorf("%s: Settle = %d, want %d", name, n, want)
	}
}

func wantSnapshots(t *testing.T, name string, w *world.World, places int, want ...int) {
	t.Helper()
	for p := range places {
		if at, err := w.Snapshot(p); err != nil || !slices.Equal(at, want) {
			t.Errorf("%s: place %d is at %v, %v, want %v", name, p, at, err, want)
		}
	}
}

// loseAll that flies.
func loseAll(t *testing.T, w *world.World) {
	t.Helper()
	for len(w.Flying()) > 0 {
		must(t, w.Drop(0))
	}
}

// late is a world of two places in which place 1 misses n beats, and then a commit; nothing of it flies.
func late(t *testing.T, n int) *world.World {
	t.Helper()
	w := newWorld(t, 2, 1)
	for range n {
		must(t, w.Beat(0))
	}
	must(t, w.Begin(0, 0), w.Write(0, api.Op{Key: "k2", Kind: api.Counter, N: 1}), w.Commit(0))
	loseAll(t, w)
	return w
}

func TestP101Settled(t *testing.T) {
	for places := 1; places <= api.MaxPlaces; places++ {
		w := newWorld(t, places, 2)
		wantSettle(t, "a new world", w, 0)
		// What flies has no say where the snapshots are the same; nor is it delivered.
		must(t, w.Beat(0))
		before := state(w)
		wantSettle(t, "all beats are of time 0", w, 0)
		if state(w) != before {
			t.Error("a world that is settled is changed")
		}
	}
	w := newWorld(t, 1, 3)
	wantPlay(t, "alone", w, 3, by(begin, 0, 0), by(write, 0, 0), by(commit, 0, 0))
	wantSettle(t, "alone", w, 0)
	wantSnapshots(t, "alone", w, 1, 1)
}

func TestP101Rounds(t *testing.T) {
	w := late(t, 0)
	wantSettle(t, "one that is lost", w, 1)
	wantSnapshots(t, "one that is lost", w, 2, 1, 0)
	if n := len(w.Flying()); n != 0 {
		t.Errorf("%d fly", n)
	}
	wantSettle(t, "once more", w, 0)

	// Each round MaxFlying come, and no more.
	for _, c := range []struct{ beats, rounds int }{
		{api.MaxFlying - 1, 1}, {api.MaxFlying, 2}, {2*api.MaxFlying - 1, 2}, {2 * api.MaxFlying, 3},
		{38*api.MaxFlying - 1, 38}, {38 * api.MaxFlying, 39}, {39*api.MaxFlying - 1, 39}, {39 * api.MaxFlying, 40},
	} {
		w := late(t, c.beats)
		wantSettle(t, fmt.Sprint("late by ", c.beats), w, c.rounds)
		wantSnapshots(t, fmt.Sprint("late by ", c.beats), w, 2, 1, 0)
	}
}

// TestP101FirstFirst: what flies first comes first; here it is too far ahead of its turn, and is lost.
func TestP101FirstFirst(t *testing.T) {
	w := newWorld(t, 2, 1)
	for range 2*api.MaxFlying - 1 {
		must(t, w.Beat(0))
	}
	loseAll(t, w)
	must(t, w.Begin(0, 0), w.Write(0, api.Op{Key: "k2", Kind: api.Counter, N: 1}), w.Commit(0))
	wantSettle(t, "MaxFlying less 1, then MaxFlying, then the commit again", w, 3)
	wantSnapshots(t, "first", w, 2, 1, 0)
}

// TestP101AtMost: 40 rounds are not enough; the next call goes on.
func TestP101AtMost(t *testing.T) {
	w := late(t, 40*api.MaxFlying)
	wantSettle(t, "at most", w, 40)
	if at, err := w.Snapshot(1); err != nil || !slices.Equal(at, []int{0, 0}) {
		t.Errorf("place 1 is at %v, %v", at, err)
	}
	if n := len(w.Flying()); n != 0 {
		t.Errorf("%d fly", n)
	}
	wantSettle(t, "one round more", w, 1)
	wantSnapshots(t, "one round more", w, 2, 1, 0)
}

// rounds is a second telling, by what the chapter says.
func rounds(t *testing.T, w *world.World, places int) int {
	t.Helper()
	n := 0
	for ; n < 40; n++ {
		var ats []string
		for p := range places {
			ats = append(ats, fmt.Sprint(w.Snapshot(p)))
		}
		if len(slices.Compact(ats)) == 1 {
			break
		}
		for p := range places {
			must(t, w.Again(p), w.Beat(p))
			for len(w.Flying()) > 0 {
				must(t, w.Deliver(0))
			}
		}
	}
	return n
}

// numbers of the messages that come next: they tell how often each stream was used.
func numbers(t *testing.T, w *world.World, places int) string {
	t.Helper()
	loseAll(t, w)
	for p := range places {
		must(t, w.Beat(p))
	}
	return state(w)
}

func TestP101AnyWorld(t *testing.T) {
	seed, most := int64(500), 0
	for places := 1; places <= api.MaxPlaces; places++ {
		for _, shards := range []int{1, 2, api.MaxShards} {
			for _, steps := range []int{50, 500, api.MaxSteps} {
				seed++
				got, want := newWorld(t, places, shards), newWorld(t, places, shards)
				script := anyScript(seed, steps)
				wantPlay(t, "a second time", want, play.Play(got, script), script...)
				n := rounds(t, want, places)
				most = max(most, n)
				wantSettle(t, fmt.Sprint("seed ", seed), got, n)
				if state(got) != state(want) || numbers(t, got, places) != numbers(t, want, places) {
					t.Errorf("seed %d: the world is another one than behind %d rounds", seed, n)
				}
			}
		}
	}
	if most < 3 {
		t.Errorf("none took more than %d rounds", most)
	}
}

// lossy calls: much is sent, and hardly anything comes.
func lossy(w *world.World, r *rand.Rand, calls int) {
	favourite := r.Intn(2) + beat
	for range calls {
		v := r.Intn(16 * 400)
		switch n := r.Intn(10); {
		case n < 4:
			v = v/16*16 + favourite
		case n < 6:
			v = v/16*16 + drop
		case n < 8:
			v = v/16*16 + begin + r.Intn(6)
		}
		play.Play(w, []int{v})
	}
}

// TestP101FewerThan40: of at most 3 places and 2 shards, behind at most 300 calls.
func TestP101FewerThan40(t *testing.T) {
	r, most := rand.New(rand.NewSource(7)), 0
	settle := func(name string, w *world.World, places int) {
		t.Helper()
		n := play.Settle(w)
		most = max(most, n)
		first, _ := w.Snapshot(0)
		wantSnapshots(t, name, w, places, first...)
		if n >= 40 {
			t.Errorf("%s: Settle = %d", name, n)
		}
	}
	for places := 1; places <= 3; places++ {
		for shards := 1; shards <= 2; shards++ {
			for range 60 {
				w := newWorld(t, places, shards)
				lossy(w, r, 300)
				settle("lossy", w, places)
			}
			for at := range places {
				// As much as can be that comes ahead of what is waited for.
				w := newWorld(t, places, shards)
				wantPlay(t, "beats", w, 297, slices.Repeat([]int{num(beat, at)}, 297)...)
				wantPlay(t, "commit", w, 3, by(begin, 0, at), by(write, 0, 0), by(commit, 0, 0))
				settle("late", w, places)
				w = newWorld(t, places, shards)
				for i := range 100 {
					wantPlay(t, "commits", w, 3, by(begin, 0, at), by(write, 0, i), by(commit, 0, 0))
				}
				settle("many", w, places)
			}
		}
	}
	if most < 3 {
		t.Errorf("none took more than %d rounds", most)
	}
}
