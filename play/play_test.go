package play_test

import (
	"fmt"
	"math"
	"slices"
	"strings"
	"testing"

	"causeway/api"
	"causeway/play"
	"causeway/world"
)

// What is left of a number tells what is done.
const (
	deliver = 0
	drop    = 6
	twice   = 7
	begin   = 8
	read    = 9
	write   = 10
	remove  = 12
	commit  = 13
	beat    = 14
	again   = 15
)

// num of a step that asks for nothing but q.
func num(what, q int) int { return 16*q + what }

// by a session: rest is a place, or a key, and all that is on top of it.
func by(what, s, rest int) int { return num(what, s+8*rest) }

func newWorld(t *testing.T, places, shards int) *world.World {
	t.Helper()
	w, err := world.New(places, shards)
	if err != nil {
		t.Fatalf("New(%d, %d) = %v", places, shards, err)
	}
	return w
}

func must(t *testing.T, errs ...error) {
	t.Helper()
	for i, err := range errs {
		if err != nil {
			t.Fatalf("call %d: %v", i, err)
		}
	}
}

func wantPlay(t *testing.T, name string, w *world.World, want int, script ...int) {
	t.Helper()
	if n := play.Play(w, script); n != want {
		t.Errorf("%s: Play = %d, want %d", name, n, want)
	}
}

// state is all that a world tells.
func state(w *world.World) string {
	var out strings.Builder
	fmt.Fprintf(&out, "%+v\n%+v\n", w.Events(), w.Flying())
	for p := range api.MaxPlaces {
		out.WriteString(fmt.Sprintln(w.Snapshot(p)))
	}
	for s := range api.MaxSessions {
		out.WriteString(fmt.Sprintln(w.Token(s)))
	}
	return out.String()
}

// busy is a world of three places in which session 0 has a transaction open at place 0, session 5 one at place 2, and 5 messages fly.
func busy(t *testing.T) *world.World {
	t.Helper()
	w := newWorld(t, 3, 2)
	must(t, w.Begin(1, 1), w.Write(1, api.Op{Key: "k3", Kind: api.Set, Text: "e4"}), w.Commit(1))
	must(t, w.Beat(1), w.Deliver(5))
	must(t, w.Begin(0, 0), w.Begin(5, 2))
	if n := len(w.Flying()); n != 6 {
		t.Fatalf("%d fly", n)
	}
	must(t, w.Drop(5))
	return w
}

// finish what is open, so that events tell it.
func finish(w *world.World) {
	for s := range api.MaxSessions {
		_ = w.Commit(s)
	}
}

// TestP100EachStep: a number does what one call does, and nothing else.
func TestP100EachStep(t *testing.T) {
	text := func(key, text string) api.Op { return api.Op{Key: key, Kind: api.Register, Text: text} }
	count := func(key string, n int) api.Op { return api.Op{Key: key, Kind: api.Counter, N: n} }
	add := func(key, text string) api.Op { return api.Op{Key: key, Kind: api.Set, Text: text} }
	gone := func(key, text string) api.Op { return api.Op{Key: key, Kind: api.Set, Text: text, Remove: true} }
	reads := func(s int, key string) func(*world.World) error {
		return func(w *world.World) error { _, err := w.Read(s, key); return err }
	}
	begins := func(s, p int) func(*world.World) error {
		return func(w *world.World) error { return w.Begin(s, p) }
	}
	writes := func(s int, o api.Op) func(*world.World) error {
		return func(w *world.World) error { return w.Write(s, o) }
	}
	commits := func(s int) func(*world.World) error {
		return func(w *world.World) error { return w.Commit(s) }
	}
	move := func(do func(*world.World, int) error, at int) func(*world.World) error {
		return func(w *world.World) error { return do(w, at) }
	}
	for _, c := range []struct {
		v  int
		do func(*world.World) error
		ok bool
	}{
		{num(0, 0), move((*world.World).Deliver, 0), true},
		{num(1, 1), move((*world.World).Deliver, 1), true},
		{num(2, 2), move((*world.World).Deliver, 2), true},
		{num(3, 3), move((*world.World).Deliver, 3), true},
		{num(4, 4), move((*world.World).Deliver, 4), true},
		{num(5, 5), move((*world.World).Deliver, 0), true},
		{num(5, 13), move((*world.World).Deliver, 3), true},
		{num(drop, 4), move((*world.World).Drop, 4), true},
		{num(drop, 7), move((*world.World).Drop, 2), true},
		{num(twice, 3), move((*world.World).Twice, 3), true},
		{num(twice, 10), move((*world.World).Twice, 0), true},
		{by(begin, 2, 0), begins(2, 0), true},
		{by(begin, 7, 2), begins(7, 2), true},
		{by(begin, 1, 4), begins(1, 1), true},
		{by(begin, 1, 3), begins(1, 0), false}, // it must wait
		{by(begin, 0, 0), begins(0, 0), false}, // one is open
		{by(read, 0, 0), reads(0, "k0"), true},
		{by(read, 5, 3), reads(5, "k3"), true},
		{by(read, 0, 9), reads(0, "k4"), true},
		{by(read, 1, 0), reads(1, "k0"), false}, // none is open
		{by(write, 0, 0), writes(0, text("k0", "t0")), true},
		{by(write, 5, 1), writes(5, text("k1", "t13")), true},
		{by(write+1, 5, 5), writes(5, text("k0", "t45")), true},
		{by(remove, 5, 6), writes(5, text("k1", "t53")), true},
		{by(write, 0, 2), writes(0, count("k2", 16)), true},
		{by(write+1, 5, 12), writes(5, count("k2", 1)), true},
		{by(remove, 5, 17), writes(5, count("k2", 41)), true},
		{by(write, 5, 3), writes(5, add("k3", "e1")), true},
		{by(write+1, 5, 4), writes(5, add("k4", "e2")), true},
		{by(write+1, 0, 8), writes(0, add("k3", "e1")), true},
		{by(remove, 5, 3+5*2), writes(5, gone("k3", "e4")), true},
		{by(remove, 0, 4), writes(0, gone("k4", "e4")), true},
		{by(write, 3, 0), writes(3, text("k0", "t3")), false},
		{by(commit, 0, 0), commits(0), true},
		{by(commit, 5, 77), commits(5), true},
		{by(commit, 6, 0), commits(6), false},
		{num(beat, 0), move((*world.World).Beat, 0), true},
		{num(beat, 5), move((*world.World).Beat, 2), true},
		{num(again, 1), move((*world.World).Again, 1), true},
		{num(again, 301), move((*world.World).Again, 1), true},
		{num(again, 2), move((*world.World).Again, 2), true},
	} {
		got, want := busy(t), busy(t)
		if err := c.do(want); (err == nil) != c.ok {
			t.Fatalf("%d: %v", c.v, err)
		}
		count := 0
		if c.ok {
			count = 1
		}
		wantPlay(t, fmt.Sprint(c.v), got, count, c.v)
		if state(got) != state(want) {
			t.Errorf("%d: the world tells\n%swant\n%s", c.v, state(got), state(want))
		}
		finish(got)
		finish(want)
		if state(got) != state(want) {
			t.Errorf("%d: behind its end the world tells\n%swant\n%s", c.v, state(got), state(want))
		}
	}
}

// TestP100Told: what a script writes, told by an event.
func TestP100Told(t *testing.T) {
	w := newWorld(t, 2, 1)
	wantPlay(t, "told", w, 9,
		by(begin, 3, 1), by(read, 3, 2),
		by(write, 3, 0), by(write, 3, 6), by(write, 3, 2), by(write, 3, 3), by(remove, 3, 3+5), by(remove, 3, 7),
		by(commit, 3, 0))
	e := w.Events()
	if len(e) != 1 || e[0].Session != 3 || e[0].Place != 1 || len(e[0].Reads) != 1 || e[0].Reads[0].Key != "k2" {
		t.Fatalf("%+v", e)
	}
	want := []api.Op{
		{At: 0, Key: "k0", Kind: api.Register, Text: "t3"},
		{At: 1, Key: "k1", Kind: api.Register, Text: "t51"},
		{At: 2, Key: "k2", Kind: api.Counter, N: 19},
		{At: 3, Key: "k3", Kind: api.Set, Text: "e6"},
		{At: 4, Key: "k3", Kind: api.Set, Text: "e4", Remove: true},
		{At: 5, Key: "k2", Kind: api.Counter, N: 59},
	}
	if fmt.Sprintf("%+v", e[0].C.Ops) != fmt.Sprintf("%+v", want) {
		t.Errorf("%+v, want %+v", e[0].C.Ops, want)
	}
}

func TestP100PassedOver(t *testing.T) {
	for _, v := range []int{-1, -2, -8, -16, -17, math.MinInt, math.MinInt + 8, -math.MaxInt} {
		w := busy(t)
		wantPlay(t, fmt.Sprint(v), w, 0, v)
		if state(w) != state(busy(t)) {
			t.Errorf("%d: it is not passed over", v)
		}
	}
	// Nothing flies, at first and behind each of them.
	w := newWorld(t, 2, 1)
	for _, what := range []int{deliver, 1, 2, 3, 4, 5, drop, twice} {
		wantPlay(t, "nothing flies", w, 0, num(what, 0), num(what, 1), num(what, 1000))
	}
	wantPlay(t, "what is behind is done", w, 2, -1, num(beat, 0), num(drop, 0), num(drop, 0), math.MinInt)
	if n := len(w.Flying()); n != 0 {
		t.Errorf("%d fly", n)
	}
}

// TestP100Errors: what is refused does not count, and what is behind it is done.
func TestP100Errors(t *testing.T) {
	w := newWorld(t, 2, 1)
	wantPlay(t, "no transaction", w, 0, by(read, 0, 0), by(write, 0, 0), by(remove, 0, 3), by(commit, 0, 0))
	wantPlay(t, "twice open", w, 1, by(begin, 0, 0), by(begin, 0, 1))
	script := slices.Repeat([]int{by(write, 0, 0)}, api.MaxOps+3)
	wantPlay(t, "too many ops", w, api.MaxOps+1, append(script, by(commit, 0, 0), by(commit, 0, 0))...)
	wantPlay(t, "it must wait", w, 0, by(begin, 0, 1))
	wantPlay(t, "too many fly", w, api.MaxFlying-1, slices.Repeat([]int{num(twice, 0)}, api.MaxFlying+9)...)
	wantPlay(t, "what is lost had no error", w, 2, num(beat, 0), num(again, 0))
	if n := len(w.Flying()); n != api.MaxFlying {
		t.Errorf("%d fly", n)
	}
}

// TestP100AtMost: those that are passed over are among the numbers that are taken.
func TestP100AtMost(t *testing.T) {
	for _, n := range []int{0, 1, api.MaxSteps - 1, api.MaxSteps, api.MaxSteps + 1, 2 * api.MaxSteps} {
		w := newWorld(t, 1, 1)
		wantPlay(t, "beats", w, min(n, api.MaxSteps), slices.Repeat([]int{num(beat, 0)}, n)...)
		script := append(slices.Repeat([]int{-1}, n), by(begin, 0, 0))
		want := 0
		if n < api.MaxSteps {
			want = 1
		}
		wantPlay(t, "nothing, then one", w, want, script...)
		if err := w.Begin(0, 0); (err == nil) != (want == 0) {
			t.Errorf("behind %d: %v", n, err)
		}
	}
}

func TestP100GreatNumbers(t *testing.T) {
	const top = math.MaxInt / 16 // its session is 7
	w := newWorld(t, 3, 2)
	wantPlay(t, "great", w, 5, num(begin, top), num(write, top), num(remove, top), num(read, top), num(commit, top))
	e := w.Events()
	if len(e) != 1 || e[0].Session != 7 || e[0].Place != top/8%3 || len(e[0].C.Ops) != 2 {
		t.Fatalf("%+v", e)
	}
	o := e[0].C.Ops[0]
	if o.Key != fmt.Sprint("k", top/8%5) || o.Text != "t576460752303423487" {
		t.Errorf("%+v", o)
	}
	wantPlay(t, "great again", w, 2, num(beat, top), math.MaxInt)
}

// TestP100GoesOn: two scripts one behind the other are one script.
func TestP100GoesOn(t *testing.T) {
	script := anyScript(3, 900)
	whole, parts := newWorld(t, 3, 2), newWorld(t, 3, 2)
	n := 0
	for i := 0; i < len(script); i += 7 {
		n += play.Play(parts, script[i:min(i+7, len(script))])
	}
	wantPlay(t, "whole", whole, n, script...)
	if state(whole) != state(parts) {
		t.Error("parts of a script tell something else than it all")
	}
}
