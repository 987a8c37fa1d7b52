package judge_test

import (
	"fmt"
	"math"
	"slices"
	"strings"
	"testing"

	"causeway/api"
	"causeway/judge"
	"causeway/world"
)

func register(at int, key, text string) api.Op {
	return api.Op{At: at, Key: key, Kind: api.Register, Text: text}
}

func counter(at int, key string, n int) api.Op {
	return api.Op{At: at, Key: key, Kind: api.Counter, N: n}
}

func add(at int, key, text string) api.Op {
	return api.Op{At: at, Key: key, Kind: api.Set, Text: text}
}

func remove(at int, key, text string, dots ...api.Dot) api.Op {
	return api.Op{At: at, Key: key, Kind: api.Set, Text: text, Remove: true, Dots: dots}
}

func isRegister(text string) api.Value { return api.Value{Kind: api.Register, Text: text} }

func isCounter(n int) api.Value { return api.Value{Kind: api.Counter, N: n} }

func isSet(texts ...string) api.Value { return api.Value{Kind: api.Set, Set: texts} }

func read(key string, v api.Value) world.Seen { return world.Seen{Key: key, V: v} }

// did: a session's transaction at a place, without reads.
func did(s, p int, at, when []int, ops ...api.Op) world.Event {
	return world.Event{Session: s, Place: p, At: at, C: api.Commit{When: when, Place: p, Ops: ops}}
}

// saw: a session's transaction at a place that only read.
func saw(s, p int, at []int, reads ...world.Seen) world.Event {
	return world.Event{Session: s, Place: p, At: at, Reads: reads, C: api.Commit{When: slices.Clone(at), Place: p}}
}

// wantFault: below 0 as a place: nil, or the error bare; else a fault that wraps no other one.
func wantFault(t *testing.T, name string, err error, at int, want error) {
	t.Helper()
	if at < 0 || want == nil {
		if err != want {
			t.Errorf("%s: %v, want %v, bare", name, err, want)
		}
		return
	}
	if f, ok := err.(*api.Fault); !ok || f.At != at || f.Err != want {
		t.Errorf("%s: %#v, want %v at %d", name, err, want, at)
	}
}

func wantCheck(t *testing.T, name string, places int, l []world.Event, at int, want error) {
	t.Helper()
	wantFault(t, name, judge.Check(places, l), at, want)
}

func wantCuts(t *testing.T, name string, l []world.Event, want ...[]int) {
	t.Helper()
	if got, err := judge.Cuts(l); err != nil || !slices.EqualFunc(got, want, slices.Equal[[]int]) {
		t.Errorf("%s: Cuts = %v, %v, want %v", name, got, err, want)
	}
}

func wantNoCuts(t *testing.T, name string, l []world.Event, at int, want error) {
	t.Helper()
	got, err := judge.Cuts(l)
	wantFault(t, name, err, at, want)
	if len(got) != 0 {
		t.Errorf("%s: Cuts = %v with an error", name, got)
	}
}

func TestP90Places(t *testing.T) {
	broken := []world.Event{{Place: -1}}
	for _, places := range []int{math.MinInt, -1, 0, api.MaxPlaces + 1, math.MaxInt} {
		wantCheck(t, "no events", places, nil, -1, api.ErrBound)
		wantCheck(t, "no whole events", places, broken, -1, api.ErrBound)
		wantCheck(t, "of so many", places, []world.Event{saw(0, 0, make([]int, min(max(places, 0), 9)))}, -1, api.ErrBound)
	}
	for places := 1; places <= api.MaxPlaces; places++ {
		wantCheck(t, "no events", places, nil, -1, nil)
		wantCheck(t, "no events", places, []world.Event{}, -1, nil)
		wantCheck(t, "one", places, []world.Event{saw(0, places-1, make([]int, places))}, -1, nil)
		wantCheck(t, "no whole events", places, broken, 0, api.ErrShape)
	}
}

// good: a list of two places with all kinds, in which each event is as it must be.
func good() []world.Event {
	first := did(0, 0, []int{0, 0}, []int{1, 0}, register(0, "r", "x"), counter(1, "n", 2), add(2, "s", "a"))
	first.Reads = []world.Seen{read("r", api.Value{}), read("n", api.Value{}), read("s", api.Value{})}
	second := did(1, 1, []int{0, 0}, []int{0, 1}, counter(0, "n", 3), add(1, "s", "a"), add(2, "s", "b"))
	third := saw(0, 0, []int{1, 0}, read("r", isRegister("x")), read("n", isCounter(2)), read("s", isSet("a")))
	fourth := did(1, 1, []int{1, 1}, []int{1, 2}, remove(0, "s", "a", api.Dot{Time: 1, At: 2}), register(1, "r", ""))
	fourth.Reads = []world.Seen{read("n", isCounter(5)), read("s", isSet("a", "b"))}
	fifth := saw(2, 0, []int{1, 2}, read("s", isSet("a", "b")), read("r", isRegister("")), read("none", api.Value{}))
	return []world.Event{first, second, third, fourth, fifth}
}

func TestP90Causal(t *testing.T) {
	wantCheck(t, "good", 2, good(), -1, nil)
	for n := range good() {
		wantCheck(t, fmt.Sprint("the first ", n), 2, good()[:n], -1, nil)
	}
}

// TestP90None: events that are none, each at any number of the list.
func TestP90None(t *testing.T) {
	many := make([]api.Op, api.MaxOps+1)
	for i := range many {
		many[i] = counter(i, "n", 1)
	}
	ops := func(l ...api.Op) func(*world.Event) {
		return func(e *world.Event) { e.C = api.Commit{When: []int{5, 5}, Place: 0, Ops: l} }
	}
	ok := counter(0, "n", 1)
	for i, c := range []struct {
		how  func(*world.Event)
		want error
	}{
		{func(e *world.Event) { *e = world.Event{} }, api.ErrShape},
		{func(e *world.Event) { e.At = nil }, api.ErrShape},
		{func(e *world.Event) { e.At = []int{0} }, api.ErrShape},
		{func(e *world.Event) { e.At = []int{0, 0, 0} }, api.ErrShape},
		{func(e *world.Event) { e.At = make([]int, 1000) }, api.ErrShape},
		{func(e *world.Event) { e.At = []int{0, -1} }, api.ErrShape},
		{func(e *world.Event) { e.At = []int{api.MaxTime + 1, 0} }, api.ErrShape},
		{func(e *world.Event) { e.At = []int{math.MinInt, math.MaxInt} }, api.ErrShape},
		{func(e *world.Event) { e.C.When = nil }, api.ErrShape},
		{func(e *world.Event) { e.C.When = []int{9} }, api.ErrShape},
		{func(e *world.Event) { e.C.When = []int{9, 9, 9} }, api.ErrShape},
		{func(e *world.Event) { e.C.When = []int{9, api.MaxTime + 1} }, api.ErrShape},
		{func(e *world.Event) { e.C.When = []int{-1, 9} }, api.ErrShape},
		{func(e *world.Event) { e.At, e.C.When = []int{9}, []int{9} }, api.ErrShape},
		{func(e *world.Event) { e.At, e.C.When = []int{9, 9, 9}, []int{9, 9, 9} }, api.ErrShape},
		{func(e *world.Event) { e.Place = -1 }, api.ErrShape},
		{func(e *world.Event) { e.Place = 2 }, api.ErrShape},
		{func(e *world.Event) { e.Place = math.MinInt }, api.ErrShape},
		{func(e *world.Event) { e.Place = math.MaxInt }, api.ErrShape},
		{func(e *world.Event) { ops(counter(0, "N", 1))(e); e.Place = 2 }, api.ErrShape},
		{func(e *world.Event) { ops(counter(0, "N", 1))(e); e.C.When = []int{5, -5} }, api.ErrShape},
		{func(e *world.Event) { ops(ok)(e); e.C.Place = -1 }, api.ErrBound},
		{func(e *world.Event) { ops(ok)(e); e.C.Place = 2 }, api.ErrBound},
		{func(e *world.Event) { ops(ok)(e); e.C.When[0] = 0 }, api.ErrBound},
		{ops(many...), api.ErrBound},
		{ops(counter(-1, "n", 1)), api.ErrBound},
		{ops(ok, counter(api.MaxOps, "n", 1)), api.ErrBound},
		{ops(ok, counter(1, "N", 1)), api.ErrName},
		{ops(counter(0, "", 1), ok), api.ErrName},
		{ops(ok, api.Op{At: 1, Key: "n", Kind: 4}), api.ErrKind},
		{ops(ok, counter(1, "n", 1), ok), api.ErrShape},
		{ops(ok, ok), api.ErrShape},
		{ops(ok, api.Op{At: 1, Key: "n", Kind: api.Counter, Text: "x"}), api.ErrShape},
		{ops(ok, counter(1, "n", api.MaxTime+1)), api.ErrBound},
		{ops(register(0, "r", strings.Repeat("x", api.MaxText+1))), api.ErrBound},
		{ops(remove(0, "s", "a", api.Dot{Place: 2, Time: 1})), api.ErrBound},
	} {
		for at := range good() {
			l := good()
			c.how(&l[at])
			wantCheck(t, fmt.Sprint("none ", i), 2, l, at, c.want)
		}
	}
}

// TestP90Whole: what is not asked of an event, and the edges of what is.
func TestP90Whole(t *testing.T) {
	far := func(e *world.Event) {
		e.At, e.C.When = []int{api.MaxTime, api.MaxTime}, []int{api.MaxTime, api.MaxTime}
	}
	for i, how := range []func(*world.Event){
		func(e *world.Event) {},
		func(e *world.Event) { e.Place = 1 },
		func(e *world.Event) { e.C.Place = -1 },
		func(e *world.Event) { e.C.Place = math.MaxInt },
		func(e *world.Event) { e.C.Ops = []api.Op{} },
		func(e *world.Event) { e.C.When = []int{1, 3} },
		func(e *world.Event) { e.C.When = []int{api.MaxTime, api.MaxTime} },
		func(e *world.Event) { e.Session = math.MinInt },
		func(e *world.Event) { e.Session = api.MaxSessions },
		func(e *world.Event) { e.Reads = nil },
		func(e *world.Event) { e.Reads = nil; far(e) },
		// Its commit may be of another place than it is itself.
		func(e *world.Event) {
			e.C = api.Commit{When: []int{1, 3}, Place: 1, Ops: []api.Op{counter(11, "n", 1)}}
		},
	} {
		l := good()
		how(&l[4])
		wantCheck(t, fmt.Sprint("whole ", i), 2, l, -1, nil)
	}
}

func TestP90AtWithinWhen(t *testing.T) {
	for i, c := range []struct {
		at, when []int
		want     error
	}{
		{[]int{4, 4}, []int{4, 4}, nil},
		{[]int{4, 4}, []int{5, 4}, nil},
		{[]int{4, 4}, []int{9, 9}, nil},
		{[]int{0, 0}, []int{0, 0}, nil},
		{[]int{4, 4}, []int{3, 4}, api.ErrBound},
		{[]int{4, 4}, []int{4, 3}, api.ErrBound},
		{[]int{4, 4}, []int{5, 3}, api.ErrBound},
		{[]int{4, 4}, []int{0, 9}, api.ErrBound},
	} {
		l := []world.Event{saw(0, 0, []int{0, 0}), did(1, 0, c.at, c.when), saw(2, 0, []int{0, 0})}
		wantCheck(t, fmt.Sprint("without ops ", i), 2, l, 1, c.want)
		if c.when[1] > 0 {
			l[1] = did(1, 1, c.at, c.when, counter(0, "n", 1))
			wantCheck(t, fmt.Sprint("with ops ", i), 2, l, 1, c.want)
		}
	}
}

func TestP90SessionsGoOn(t *testing.T) {
	for i, c := range []struct {
		l    []world.Event
		at   int
		want error
	}{
		{[]world.Event{saw(0, 0, []int{2, 0}), saw(0, 0, []int{2, 0})}, -1, nil},
		{[]world.Event{saw(0, 0, []int{2, 0}), saw(0, 1, []int{2, 1})}, -1, nil},
		{[]world.Event{saw(0, 0, []int{2, 0}), saw(0, 1, []int{1, 9})}, 1, api.ErrOld},
		{[]world.Event{saw(0, 0, []int{2, 0}), saw(1, 1, []int{1, 9})}, -1, nil},
		// What it did counts, with ops or without; not what it could see.
		{[]world.Event{did(0, 0, []int{0, 0}, []int{1, 0}), saw(0, 0, []int{0, 0})}, 1, api.ErrOld},
		{[]world.Event{did(0, 0, []int{0, 0}, []int{1, 0}, counter(0, "n", 1)), saw(0, 0, []int{0, 0})}, 1, api.ErrOld},
		{[]world.Event{did(0, 0, []int{0, 0}, []int{1, 0}, counter(0, "n", 1)), saw(0, 0, []int{1, 0})}, -1, nil},
		// It must see it at the beginning: that its own commit has it is not enough.
		{[]world.Event{did(0, 0, []int{0, 0}, []int{1, 0}), did(0, 0, []int{0, 0}, []int{2, 0})}, 1, api.ErrOld},
		// Others between, and sessions of any number.
		{[]world.Event{saw(-7, 0, []int{2, 0}), saw(7, 0, []int{0, 0}), saw(math.MinInt, 0, []int{0, 0}), saw(-7, 0, []int{1, 5})}, 3, api.ErrOld},
		{[]world.Event{saw(math.MaxInt, 0, []int{2, 0}), saw(7, 0, []int{0, 0}), saw(math.MaxInt, 0, []int{2, 5}), saw(7, 0, []int{0, 0})}, -1, nil},
		{[]world.Event{saw(1, 0, []int{0, 3}), saw(2, 0, []int{3, 0}), saw(1, 0, []int{0, 4}), saw(2, 0, []int{2, 4}), saw(1, 0, []int{0, 0})}, 3, api.ErrOld},
		// The place does not make a session.
		{[]world.Event{saw(1, 0, []int{0, 3}), saw(1, 1, []int{0, 2})}, 1, api.ErrOld},
		{[]world.Event{saw(1, 0, []int{0, 3}), saw(1, 1, []int{0, 3}), saw(1, 0, []int{0, 2})}, 2, api.ErrOld},
		// An event of its session that stands behind it does not count.
		{[]world.Event{saw(1, 0, []int{0, 0}), saw(1, 1, []int{0, 3})}, -1, nil},
	} {
		wantCheck(t, fmt.Sprint("sessions ", i), 2, c.l, c.at, c.want)
	}
}

// TestP90ReadsFalse: each false read of each event, at each number of its reads.
func TestP90ReadsFalse(t *testing.T) {
	for at := range good() {
		for n := range good()[at].Reads {
			for i, how := range []func(*world.Seen){
				func(r *world.Seen) { r.V.Kind = r.V.Kind%3 + 1 },
				func(r *world.Seen) { r.V.Text += "x" },
				func(r *world.Seen) { r.V.N++ },
				func(r *world.Seen) { r.V.N -= 7 },
				func(r *world.Seen) { r.V.Set = append(slices.Clone(r.V.Set), "z") },
				func(r *world.Seen) { r.V.Set = append([]string{""}, r.V.Set...) },
				func(r *world.Seen) { r.Key = "" },
				func(r *world.Seen) { r.Key = "N" },
				func(r *world.Seen) { r.Key = strings.Repeat("n", api.MaxName+1) },
				func(r *world.Seen) { r.Key, r.V = "no name", api.Value{} },
			} {
				l := good()
				how(&l[at].Reads[n])
				wantCheck(t, fmt.Sprint("read ", n, " wrong by ", i), 2, l, at, api.ErrSum)
			}
		}
	}
	for i, v := range []api.Value{isSet("a"), isSet("b"), isSet("b", "a"), isSet("a", "a", "b"), isSet("a", "c"), isSet(), {}, isRegister(""), {Kind: 4, Set: []string{"a", "b"}}} {
		l := good()
		l[4].Reads[0].V = v
		wantCheck(t, fmt.Sprint("set ", i), 2, l, 4, api.ErrSum)
	}
}

func TestP90ReadsTrue(t *testing.T) {
	gone := did(0, 0, []int{1}, []int{2}, remove(0, "s", "a", api.Dot{Time: 1}))
	for i, c := range []struct {
		l    []world.Event
		at   int
		want error
	}{
		// A set of which all went is no nothing; a nil list and an empty one are one thing.
		{[]world.Event{did(0, 0, []int{0}, []int{1}, add(0, "s", "a")), gone, saw(0, 0, []int{2}, read("s", isSet()))}, -1, nil},
		{[]world.Event{did(0, 0, []int{0}, []int{1}, add(0, "s", "a")), gone, saw(0, 0, []int{2}, read("s", api.Value{Kind: api.Set, Set: []string{}}))}, -1, nil},
		{[]world.Event{did(0, 0, []int{0}, []int{1}, add(0, "s", "a")), gone, saw(0, 0, []int{2}, read("s", api.Value{}))}, 2, api.ErrSum},
		{[]world.Event{saw(0, 0, []int{2}, read("s", api.Value{Set: []string{}}))}, -1, nil},
		{[]world.Event{saw(0, 0, []int{2}, read("s", isSet()))}, 0, api.ErrSum},
		// All of the list count, those behind it, too.
		{[]world.Event{saw(0, 0, []int{1}, read("n", isCounter(3))), did(1, 0, []int{0}, []int{1}, counter(0, "n", 3))}, -1, nil},
		{[]world.Event{saw(0, 0, []int{1}, read("n", api.Value{})), did(1, 0, []int{0}, []int{1}, counter(0, "n", 3))}, 0, api.ErrSum},
		{[]world.Event{saw(0, 0, []int{0}, read("n", api.Value{})), did(1, 0, []int{0}, []int{1}, counter(0, "n", 3))}, -1, nil},
		// What it did itself counts only if it is within At.
		{[]world.Event{{At: []int{0}, Reads: []world.Seen{read("n", isCounter(3))}, C: api.Commit{When: []int{1}, Ops: []api.Op{counter(0, "n", 3)}}}}, 0, api.ErrSum},
		{[]world.Event{{At: []int{1}, Reads: []world.Seen{read("n", isCounter(3))}, C: api.Commit{When: []int{1}, Ops: []api.Op{counter(0, "n", 3)}}}}, -1, nil},
		// An op that is there twice counts once, the first one of the list, on whatever key.
		{[]world.Event{did(0, 0, []int{0}, []int{1}, counter(0, "n", 3)), did(1, 0, []int{0}, []int{1}, counter(0, "n", 5)), saw(0, 0, []int{1}, read("n", isCounter(3)))}, -1, nil},
		{[]world.Event{did(0, 0, []int{0}, []int{1}, counter(0, "m", 3)), did(1, 0, []int{0}, []int{1}, counter(0, "n", 5)), saw(0, 0, []int{1}, read("n", api.Value{}), read("m", isCounter(3)))}, -1, nil},
		{[]world.Event{did(0, 0, []int{0}, []int{1}, counter(0, "m", 3)), did(1, 0, []int{0}, []int{1}, counter(1, "n", 5)), saw(0, 0, []int{1}, read("n", isCounter(5)), read("m", isCounter(3)))}, -1, nil},
		// The same key may be read again, and must be the same again.
		{[]world.Event{did(0, 0, []int{0}, []int{1}, counter(0, "n", 3)), saw(0, 0, []int{1}, read("n", isCounter(3)), read("n", isCounter(3)))}, -1, nil},
		{[]world.Event{did(0, 0, []int{0}, []int{1}, counter(0, "n", 3)), saw(0, 0, []int{1}, read("n", isCounter(3)), read("n", isCounter(4)))}, 1, api.ErrSum},
	} {
		wantCheck(t, fmt.Sprint("reads ", i), 1, c.l, c.at, c.want)
	}
	// Of two places: what is beside At is not seen.
	l := []world.Event{
		did(0, 0, []int{0, 0}, []int{1, 0}, register(0, "r", "a")), did(1, 1, []int{0, 0}, []int{0, 1}, register(0, "r", "b")),
		did(0, 0, []int{1, 1}, []int{2, 1}, register(0, "r", "c")),
		saw(3, 0, []int{2, 0}, read("r", isRegister("a"))), saw(4, 1, []int{0, 9}, read("r", isRegister("b"))),
		saw(5, 1, []int{1, 1}, read("r", isRegister("b"))), saw(6, 1, []int{2, 1}, read("r", isRegister("c"))),
	}
	wantCheck(t, "two places", 2, l, -1, nil)
}

// TestP90First: which error is told where there are several.
func TestP90First(t *testing.T) {
	bound := func(e *world.Event) { e.At, e.C.When = []int{9, 9}, []int{9, 8} }
	old := func(e *world.Event) { e.Session, e.At, e.C.When, e.C.Ops = 0, []int{0, 0}, []int{0, 0}, nil }
	sum := func(e *world.Event) { e.Reads = append(e.Reads, read("NO", api.Value{})) }
	none := func(e *world.Event) { e.Place = 2 }
	for i, c := range []struct {
		at   int
		want error
		how  func(l []world.Event)
	}{
		{2, api.ErrBound, func(l []world.Event) { bound(&l[2]); sum(&l[2]) }},
		{2, api.ErrBound, func(l []world.Event) { old(&l[2]); l[2].At = []int{0, 1}; sum(&l[2]) }},
		{2, api.ErrOld, func(l []world.Event) { old(&l[2]); sum(&l[2]) }},
		{2, api.ErrSum, func(l []world.Event) { sum(&l[2]); bound(&l[3]) }},
		{2, api.ErrOld, func(l []world.Event) { old(&l[2]); bound(&l[3]); sum(&l[4]) }},
		{1, api.ErrSum, func(l []world.Event) { sum(&l[1]); old(&l[2]); bound(&l[3]) }},
		{1, api.ErrSum, func(l []world.Event) { sum(&l[1]); sum(&l[2]) }},
		// An event that is none goes ahead of all that, wherever it stands.
		{4, api.ErrShape, func(l []world.Event) { bound(&l[0]); old(&l[2]); sum(&l[3]); none(&l[4]) }},
		{4, api.ErrName, func(l []world.Event) {
			bound(&l[0])
			l[4] = did(2, 0, []int{9, 9}, []int{9, 8}, counter(0, "n", 1), counter(1, "N", 1))
		}},
		{3, api.ErrName, func(l []world.Event) { l[3].C.Ops[1].Key = ""; none(&l[4]) }},
		{3, api.ErrShape, func(l []world.Event) { none(&l[3]); l[1].Reads = nil; l[4].At = nil }},
	} {
		l := good()
		c.how(l)
		wantCheck(t, fmt.Sprint("first ", i), 2, l, c.at, c.want)
	}
}

func TestP91Seen(t *testing.T) {
	l := good()
	want := [][]bool{ // by a: has b seen it?
		{false, false, true, true, true},
		{false, false, false, true, true},
		{false, false, true, true, true}, // without ops, all the same
		{false, false, false, false, true},
		{false, false, false, false, true},
	}
	for a := range l {
		for b := range l {
			if got, err := judge.Seen(l, a, b); got != want[a][b] || err != nil {
				t.Errorf("Seen(%d, %d) = %v, %v, want %v", a, b, got, err, want[a][b])
			}
		}
	}
}

func TestP91SeenRefuses(t *testing.T) {
	l := []world.Event{
		saw(0, 0, []int{1, 1}),
		{At: []int{1}, C: api.Commit{When: []int{-1, 0}}},
		{At: []int{api.MaxTime + 1, 0}, C: api.Commit{When: make([]int, api.MaxPlaces+1)}},
		{},
		{At: []int{3, 3, 3}, C: api.Commit{When: []int{1, 1, 1}}},
	}
	for i, c := range []struct {
		a, b int
		want error
	}{
		{-1, 0, api.ErrBound}, {0, -1, api.ErrBound}, {5, 0, api.ErrBound}, {0, 5, api.ErrBound},
		{math.MinInt, 0, api.ErrBound}, {0, math.MaxInt, api.ErrBound}, {3, 5, api.ErrBound}, {-1, 3, api.ErrBound},
		{0, 0, nil},
		{0, 1, api.ErrShape}, {0, 2, api.ErrBound}, {0, 3, api.ErrShape}, {0, 4, api.ErrShape},
		{1, 0, api.ErrBound}, {1, 3, api.ErrBound}, {2, 0, api.ErrShape}, {2, 2, api.ErrShape}, {3, 0, api.ErrShape}, {3, 2, api.ErrShape},
		{4, 0, api.ErrShape}, {4, 4, nil}, {4, 2, api.ErrBound},
	} {
		got, err := judge.Seen(l, c.a, c.b)
		wantFault(t, fmt.Sprint("Seen ", i), err, -1, c.want)
		if got != (c.want == nil) {
			t.Errorf("Seen(%d, %d) = %v, %v", c.a, c.b, got, err)
		}
	}
	for _, none := range [][]world.Event{nil, {}} {
		if got, err := judge.Seen(none, 0, 0); got || err != api.ErrBound {
			t.Errorf("Seen of no events = %v, %v", got, err)
		}
	}
}

func TestP91Cuts(t *testing.T) {
	n := counter(0, "n", 1)
	wantCuts(t, "no events", nil)
	wantCuts(t, "no events", []world.Event{})
	wantCuts(t, "good", good(), []int{0, 1}, []int{2, 3}, []int{4})
	for i, c := range []struct {
		l    []world.Event
		want [][]int
	}{
		{[]world.Event{saw(0, 0, []int{9, 9})}, [][]int{{0}}},
		// A chain, forth and back.
		{[]world.Event{did(0, 0, []int{0}, []int{1}, n), did(0, 0, []int{1}, []int{2}, n), did(0, 0, []int{2}, []int{3}, n)}, [][]int{{0}, {1}, {2}}},
		{[]world.Event{did(0, 0, []int{2}, []int{3}, n), did(0, 0, []int{1}, []int{2}, n), did(0, 0, []int{0}, []int{1}, n)}, [][]int{{2}, {1}, {0}}},
		// What has no ops holds nobody back: not others, not itself.
		{[]world.Event{did(0, 0, []int{2}, []int{3}), did(0, 0, []int{1}, []int{2}), did(0, 0, []int{0}, []int{1}), saw(0, 0, []int{9})}, [][]int{{0, 1, 2, 3}}},
		{[]world.Event{did(0, 0, []int{0}, []int{1}), did(0, 0, []int{1}, []int{2}, n), saw(0, 0, []int{1}), saw(0, 0, []int{2})}, [][]int{{0, 1, 2}, {3}}},
		// Rounds as early as may be, numbers rising.
		{[]world.Event{
			saw(0, 0, []int{1, 1}), did(0, 1, []int{0, 0}, []int{0, 1}, n), saw(0, 0, []int{0, 1}), did(0, 0, []int{0, 1}, []int{1, 1}, n),
			saw(0, 0, []int{9, 0}), saw(0, 0, []int{1, 9}), saw(0, 0, []int{0, 0}),
		}, [][]int{{1, 4, 6}, {2, 3}, {0, 5}}},
		// Neither sessions nor places nor ops that are none are looked at.
		{[]world.Event{did(-3, 77, []int{0}, []int{1}, api.Op{Kind: 9}), did(99, -5, []int{1}, []int{0}), {Session: 5, At: []int{0}, C: api.Commit{When: []int{0}}, Reads: []world.Seen{{Key: "NO"}}}}, [][]int{{0, 2}, {1}}},
		{[]world.Event{did(0, 0, []int{api.MaxTime}, []int{0}), did(0, 0, []int{0}, []int{api.MaxTime}, n)}, [][]int{{1}, {0}}},
	} {
		wantCuts(t, fmt.Sprint("cuts ", i), c.l, c.want...)
	}
}

func TestP91CutsHeld(t *testing.T) {
	n := counter(0, "n", 1)
	for i, l := range [][]world.Event{
		{did(0, 0, []int{1}, []int{1}, n)},
		{did(0, 0, []int{0}, []int{0}, n)},
		{did(0, 0, []int{0, 1}, []int{1, 0}, n), did(1, 1, []int{1, 0}, []int{0, 1}, n)},
		// Some rounds there are, and then none.
		{did(0, 0, []int{0}, []int{1}, n), did(0, 0, []int{1}, []int{2}, n), did(0, 0, []int{4}, []int{4}, n)},
		{saw(0, 0, []int{0, 0}), did(0, 0, []int{0, 1}, []int{1, 0}, n), saw(0, 0, []int{0, 0}), did(1, 1, []int{1, 0}, []int{0, 1}, n)},
		// One that has seen what is held is held.
		{did(0, 0, []int{2}, []int{2}, n), saw(0, 0, []int{2})},
		{
			did(0, 0, []int{0, 0, 1}, []int{1, 0, 0}, n), did(0, 0, []int{1, 0, 0}, []int{0, 1, 0}, n), did(0, 0, []int{0, 1, 0}, []int{0, 0, 1}, n),
		},
	} {
		wantNoCuts(t, fmt.Sprint("held ", i), l, -1, api.ErrHeld)
	}
}

func TestP91CutsRefuses(t *testing.T) {
	n := counter(0, "n", 1)
	held := did(0, 0, []int{1, 1}, []int{1, 1}, n)
	for i, c := range []struct {
		how  func(e *world.Event)
		want error
	}{
		{func(e *world.Event) { *e = world.Event{} }, api.ErrShape},
		{func(e *world.Event) { e.At = nil }, api.ErrShape},
		{func(e *world.Event) { e.C.When = nil }, api.ErrShape},
		{func(e *world.Event) { e.C.When = []int{1} }, api.ErrShape},
		{func(e *world.Event) { e.At = []int{1} }, api.ErrShape},
		{func(e *world.Event) { e.At = []int{1, 2, 3} }, api.ErrShape},
		{func(e *world.Event) { e.At = make([]int, api.MaxPlaces+1) }, api.ErrShape},
		{func(e *world.Event) { e.At = []int{0, -1} }, api.ErrBound},
		{func(e *world.Event) { e.C.When = []int{api.MaxTime + 1, 0} }, api.ErrBound},
		{func(e *world.Event) { e.C.When = []int{-1, 0}; e.At = nil }, api.ErrBound},
		{func(e *world.Event) { e.C.When = []int{-1, 0, 0}; e.At = []int{1} }, api.ErrBound},
		{func(e *world.Event) { e.C.When = []int{}; e.At = []int{-1} }, api.ErrShape},
	} {
		for at := range good() {
			l := good()
			c.how(&l[at])
			wantNoCuts(t, fmt.Sprint("wrong ", i), l, at, c.want)
			// With or without ops; and what is held is not told ahead of it.
			l[at].C.Ops = nil
			wantNoCuts(t, fmt.Sprint("wrong, without ops ", i), l, at, c.want)
			wantNoCuts(t, fmt.Sprint("wrong behind what is held ", i), append([]world.Event{held}, l...), at+1, c.want)
		}
	}
	three := saw(0, 0, []int{0, 0, 0})
	wantNoCuts(t, "more places", []world.Event{held, saw(0, 0, []int{0, 0}), three}, 2, api.ErrShape)
	wantNoCuts(t, "fewer places", []world.Event{three, three, held, {}}, 2, api.ErrShape)
	wantNoCuts(t, "the first of two", []world.Event{three, held, saw(0, 0, []int{0, 0, -1})}, 1, api.ErrShape)
	wantNoCuts(t, "the first of two", []world.Event{three, saw(0, 0, []int{0, 0, -1}), held}, 1, api.ErrBound)
}
