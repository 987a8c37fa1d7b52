package world_test

import (
	"math"
	"slices"
	"testing"

	"causeway/api"
	"causeway/wire"
	"causeway/world"
)

// spoil writes into all lists of a commit.
func spoil(c api.Commit) {
	for i := range c.When {
		c.When[i] = 77
	}
	for i := range c.Ops {
		for j := range c.Ops[i].Dots {
			c.Ops[i].Dots[j] = api.Dot{Place: 7, Time: 7, At: 7}
		}
		c.Ops[i] = counter("spoiled", 7)
	}
}

func spoilEvent(e world.Event) {
	for i := range e.At {
		e.At[i] = 77
	}
	for i := range e.Reads {
		for j := range e.Reads[i].V.Set {
			e.Reads[i].V.Set[j] = "spoiled"
		}
		e.Reads[i] = world.Seen{Key: "spoiled"}
	}
	spoil(e.C)
}

func copyMessages(l []wire.Message) []wire.Message {
	var out []wire.Message
	for _, m := range l {
		out = append(out, wire.Copy(m))
	}
	return out
}

// full is a world with events that have all that an event may have, and messages.
func full(t *testing.T) *world.World {
	t.Helper()
	w := newWorld(t, 2, 1)
	do(t, w, 0, 0, add("s", "a"), add("s", "b"))
	must(t, w.Begin(0, 0))
	for range 2 {
		v, err := w.Read(0, "s")
		if err != nil || !sameValue(v, isSet("a", "b")) {
			t.Fatalf("Read = %v, %v", v, err)
		}
		v.Set[0], v.Set[1] = "spoiled", "spoiled"
	}
	write(t, w, 0, remove("s", "a"))
	must(t, w.Commit(0), w.Begin(1, 0), w.Commit(1))
	return w
}

func TestP4Events(t *testing.T) {
	w, want := full(t), full(t).Events()
	if len(want) != 3 || len(want[1].Reads) != 2 || len(want[1].C.Ops[0].Dots) != 1 {
		t.Fatalf("events %+v", want)
	}
	wantEvents(t, "reads were spoiled", w, want...)
	l := w.Events()
	for i := range l {
		spoilEvent(l[i])
		wantEvents(t, "spoiled", w, want...)
		if i+1 < len(l) && !sameEvent(l[i+1], want[i+1]) {
			t.Errorf("events share memory: %+v", l)
		}
	}
	// At and When of a transaction without ops are the same, and not one.
	l = w.Events()
	l[2].At[0] = 77
	if l[2].C.When[0] != 2 {
		t.Errorf("At and When share memory")
	}
	l = w.Events()
	l[1].Reads[0].V.Set[0] = "spoiled"
	if l[1].Reads[1].V.Set[0] != "a" {
		t.Errorf("reads share memory")
	}
	spoilAll(l)
	must(t, w.Begin(0, 0))
	wantRead(t, "events spoiled", w, 0, "s", isSet("b"))
	wantToken(t, "events spoiled", w, 1, 2, 0)
}

func spoilAll(l []world.Event) {
	for _, e := range l {
		spoilEvent(e)
	}
}

func TestP4Flying(t *testing.T) {
	w := full(t)
	must(t, w.Twice(1), w.Again(0))
	want := copyMessages(w.Flying())
	l := w.Flying()
	for i := range l {
		spoil(l[i].C)
		wantFlying(t, "spoiled", w, want)
		if i+1 < len(l) && !sameMessage(l[i+1], want[i+1]) {
			t.Errorf("messages share memory: %+v", l)
		}
	}
	spoilAll(w.Events())
	wantFlying(t, "events spoiled", w, want)
	deliver(t, w)
	must(t, w.Begin(0, 1))
	wantRead(t, "spoiled", w, 0, "s", isSet("b"))
}

func TestP4SnapshotAndToken(t *testing.T) {
	w := full(t)
	must(t, w.Begin(3, 0))
	for range 2 {
		at, err := w.Snapshot(0)
		must(t, err)
		token, err := w.Token(3)
		must(t, err)
		if !slices.Equal(at, []int{2, 0}) || !slices.Equal(token, []int{2, 0}) {
			t.Fatalf("snapshot %v, token %v", at, token)
		}
		at[0], token[0] = 77, 77
	}
	must(t, w.Prune(0), w.Commit(3))
	if e := w.Events()[3]; !slices.Equal(e.At, []int{2, 0}) || !slices.Equal(e.C.When, []int{2, 0}) {
		t.Errorf("event %+v", e)
	}
}

// TestP4Ops: what is handed over is only read.
func TestP4Ops(t *testing.T) {
	w := newWorld(t, 1, 1)
	dots := []api.Dot{{Place: 5, Time: 5, At: 5}, {Place: 6, Time: 6, At: 6}}
	o := remove("s", "a", dots[:1]...)
	do(t, w, 0, 0, add("s", "a"))
	do(t, w, 0, 0, o)
	dots[0].Place = 0
	if dots[1] != (api.Dot{Place: 6, Time: 6, At: 6}) || len(o.Dots) != 1 {
		t.Errorf("op %+v", o)
	}
	want := remove("s", "a", api.Dot{Time: 1})
	if e := w.Events(); !sameCommit(e[1].C, api.Commit{When: []int{2}, Ops: []api.Op{want}}) {
		t.Errorf("events %+v", e)
	}
}

// TestP1Anything: whatever is given, a call ends and does not panic, and the world goes on.
func TestP1Anything(t *testing.T) {
	texts := []string{"", "a", "A\x00", "\xff", string(make([]byte, 1000))}
	numbers := []int{math.MinInt, -1, 0, 1, 7, 8, 200, math.MaxInt}
	w := newWorld(t, 2, 2)
	for _, n := range numbers {
		for _, m := range numbers {
			world.New(n, m)
			w.Begin(n, m)
			for _, text := range texts {
				w.Read(n, text)
				w.Write(n, api.Op{At: m, Key: text, Kind: m, Text: text, N: m, Remove: true, Dots: []api.Dot{{Place: m}}})
				w.Write(n, api.Op{Key: "a", Kind: 1 + len(text)%3, Text: text, N: m})
			}
		}
		for _, call := range []func(int) error{w.Beat, w.Again, w.Twice, w.Deliver, w.Drop, w.Prune, w.Commit, w.Abort} {
			call(n)
		}
		w.Snapshot(n)
		w.Token(n)
	}
	for s := range api.MaxSessions {
		_ = w.Abort(s)
	}
	do(t, w, 0, 0, counter("z", 1))
	settle(t, w, 2)
	must(t, w.Begin(0, 1))
	wantRead(t, "behind all that", w, 0, "z", isCounter(1))
}
