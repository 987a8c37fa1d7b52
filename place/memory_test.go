package place_test

import (
	"math"
	"slices"
	"testing"

	"causeway/api"
	"causeway/place"
	"causeway/wire"
)

// spoil writes into all lists of a message.
func spoil(m wire.Message) {
	for i := range m.C.When {
		m.C.When[i] = 77
	}
	for i := range m.C.Ops {
		for j := range m.C.Ops[i].Dots {
			m.C.Ops[i].Dots[j] = api.Dot{Place: 7, Time: 7, At: 7}
		}
		m.C.Ops[i] = counter("spoiled", 7)
	}
}

func spoilAll(l []wire.Message) {
	for _, m := range l {
		spoil(m)
	}
}

func copyAll(l []wire.Message) []wire.Message {
	var out []wire.Message
	for _, m := range l {
		out = append(out, wire.Copy(m))
	}
	return out
}

// spare is the list with memory behind its length.
func spare[T any](l []T) []T {
	return append(make([]T, 0, len(l)+3), l...)
}

func wantZeroBehind[T comparable](t *testing.T, name string, l []T) {
	t.Helper()
	var zero T
	for _, x := range l[len(l):cap(l)] {
		if x != zero {
			t.Errorf("%s: %v was written behind its length", name, x)
		}
	}
}

func TestP4Commit(t *testing.T) {
	p := newPlace(t, 0, 3, 1)
	mustCommit(t, p, []int{0, 0, 0}, add("s", "a"))
	dots, at := spare([]api.Dot{{Place: 0, Time: 1}}), spare([]int{1, 0, 0})
	ops := []api.Op{remove("s", "a", dots...), add("s", "b")}
	ops[0].At, ops[1].At, ops[0].Dots = 5, 5, dots
	c, l := mustCommit(t, p, at, ops...)
	wantZeroBehind(t, "at", at)
	wantZeroBehind(t, "dots", dots)
	if !slices.Equal(at, []int{1, 0, 0}) || !slices.Equal(dots, []api.Dot{{Place: 0, Time: 1}}) || ops[0].At != 5 || ops[1].At != 5 {
		t.Errorf("what was handed over is changed: %v, %v", at, ops)
	}
	whole, kept, again := wire.Copy(wire.Message{C: c}).C, copyAll(l), copyAll(p.Again())
	at[0], dots[0] = 9, api.Dot{Place: 1, Time: 9}
	ops[1] = counter("s", 1)
	if !sameCommit(c, whole) {
		t.Errorf("the commit shares memory with what was handed over: %+v", c)
	}
	// Each answer is spoiled while the others must stay.
	spoil(wire.Message{C: c})
	wantMessages(t, "commit spoiled", l, kept...)
	spoil(l[0])
	wantMessages(t, "first spoiled", l[1:], kept[1:]...)
	spoilAll(l)
	told := p.Again()
	wantMessages(t, "messages spoiled", told, again...)
	spoilAll(told)
	wantMessages(t, "again spoiled", p.Again(), again...)
	wantRead(t, "all spoiled", p, "s", []int{2, 0, 0}, api.Value{Kind: api.Set, Set: []string{"b"}})
}

func TestP4Hear(t *testing.T) {
	q := newPlace(t, 1, 2, 1)
	first := tells(0, 1, 0, 1, 1, commit(0, []int{1, 0}, add("s", "a")))
	second := tells(0, 1, 0, 2, 2, commit(0, []int{2, 0}, remove("s", "a", api.Dot{Place: 0, Time: 1}), api.Op{At: 1, Key: "s", Kind: api.Set, Text: "b"}))
	same2 := wire.Copy(second)
	mustHear(t, q, second, 0)
	if !same(second, same2) {
		t.Errorf("what was handed over is changed: %+v", second)
	}
	spoil(second)
	mustHear(t, q, first, 2)
	spoil(first)
	wantRead(t, "spoiled", q, "s", []int{1, 0}, api.Value{Kind: api.Set, Set: []string{"a"}})
	wantRead(t, "spoiled", q, "s", []int{2, 0}, api.Value{Kind: api.Set, Set: []string{"b"}})
}

func TestP4Answers(t *testing.T) {
	p := newPlace(t, 0, 2, 1)
	mustCommit(t, p, []int{0, 0}, add("s", "a"), add("s", "b"))
	p.Snapshot()[0] = 9
	wantSnapshot(t, "spoiled", p, 1, 0)
	at := spare([]int{1, 0})
	v, err := p.Read("s", at)
	if err != nil {
		t.Fatal(err)
	}
	v.Set[0] = "spoiled"
	dots, err := p.Dots("s", "a", at)
	if err != nil {
		t.Fatal(err)
	}
	dots[0] = api.Dot{}
	mustPrune(t, p, at...)
	if err := p.Prune(at); err != nil {
		t.Fatal(err)
	}
	wantZeroBehind(t, "at", at)
	at[0] = 0
	wantRead(t, "spoiled", p, "s", []int{1, 0}, api.Value{Kind: api.Set, Set: []string{"a", "b"}})
	if l, err := p.Dots("s", "a", []int{1, 0}); err != nil || !slices.Equal(l, []api.Dot{{Place: 0, Time: 1}}) {
		t.Errorf("dots %v, %v", l, err)
	}
}

// TestP1Anything: whatever is given, a call ends and does not panic, and the place goes on.
func TestP1Anything(t *testing.T) {
	numbers := []int{math.MinInt, -2, -1, 0, 1, 2, api.MaxTime, api.MaxTime + 1, math.MaxInt}
	vectors := [][]int{nil, {}, {0}, {0, 0}, {-1, 0}, {math.MaxInt, math.MinInt}, {api.MaxTime, api.MaxTime}, make([]int, 100)}
	ops := [][]api.Op{nil, {}, {{}}, {counter("a", 1)}, {{At: math.MinInt, Key: "a", Kind: math.MaxInt, N: math.MinInt, Dots: []api.Dot{{}}}}, make([]api.Op, 1000)}
	p := newPlace(t, 0, 2, 2)
	for _, at := range vectors {
		for _, l := range ops {
			p.Commit(at, l)
			for _, n := range numbers {
				p.Hear(wire.Message{From: 1, To: 0, Shard: 1, Seq: 1, Time: n, C: api.Commit{When: at, Place: n, Ops: l}})
			}
		}
		for _, key := range []string{"", "a", "A\x00", string(make([]byte, 1000))} {
			p.Read(key, at)
			p.Dots(key, key, at)
		}
		p.Prune(at)
	}
	for _, from := range numbers {
		for _, shard := range numbers {
			for _, seq := range numbers {
				for _, time := range numbers {
					p.Hear(wire.Message{From: from, Shard: shard, Seq: seq, Time: time})
					p.Hear(wire.Message{From: from, To: shard, Seq: seq, Time: time, Beat: true})
				}
			}
		}
		place.New(from, from, from)
		place.Shard("a", from)
	}
	clock := p.Clock()
	if _, _, err := p.Commit(p.Snapshot(), []api.Op{counter("z", 1)}); err != nil || p.Clock() != clock+1 {
		t.Errorf("behind all that: %v", err)
	}
	wantCount(t, "behind all that", p, "z", 1)
}
