package world_test

import (
	"fmt"
	"math"
	"reflect"
	"slices"
	"strings"
	"testing"

	"causeway/api"
	"causeway/place"
	"causeway/wire"
	"causeway/world"
)

func newWorld(t *testing.T, places, shards int) *world.World {
	t.Helper()
	w, err := world.New(places, shards)
	if err != nil || w == nil {
		t.Fatalf("New(%d, %d) = %v, %v", places, shards, w, err)
	}
	return w
}

func newPlace(t *testing.T, id, places, shards int) *place.Place {
	t.Helper()
	p, err := place.New(id, places, shards)
	if err != nil {
		t.Fatalf("place.New(%d, %d, %d) = %v", id, places, shards, err)
	}
	return p
}

// must: none of these calls is refused.
func must(t *testing.T, errs ...error) {
	t.Helper()
	for i, err := range errs {
		if err != nil {
			t.Fatalf("call %d: %v", i, err)
		}
	}
}

// wantErrors, bare ones, of calls.
func wantErrors(t *testing.T, name string, want error, errs ...error) {
	t.Helper()
	for i, err := range errs {
		if err != want {
			t.Errorf("%s: call %d: %v, want %v", name, i, err, want)
		}
	}
}

// do a transaction of a session at a place.
func do(t *testing.T, w *world.World, s, p int, ops ...api.Op) {
	t.Helper()
	must(t, w.Begin(s, p))
	write(t, w, s, ops...)
	must(t, w.Commit(s))
}

func write(t *testing.T, w *world.World, s int, ops ...api.Op) {
	t.Helper()
	for _, o := range ops {
		must(t, w.Write(s, o))
	}
}

// deliver all that flies, the first one first.
func deliver(t *testing.T, w *world.World) {
	t.Helper()
	for len(w.Flying()) > 0 {
		must(t, w.Deliver(0))
	}
}

// spread all that there is to all places, without loss.
func spread(t *testing.T, w *world.World, places int) {
	t.Helper()
	for p := range places {
		must(t, w.Again(p), w.Beat(p))
		deliver(t, w)
	}
}

func register(key, text string) api.Op {
	return api.Op{Key: key, Kind: api.Register, Text: text}
}

func counter(key string, n int) api.Op {
	return api.Op{Key: key, Kind: api.Counter, N: n}
}

func add(key, text string) api.Op {
	return api.Op{Key: key, Kind: api.Set, Text: text}
}

func remove(key, text string, dots ...api.Dot) api.Op {
	return api.Op{Key: key, Kind: api.Set, Text: text, Remove: true, Dots: dots}
}

func isRegister(text string) api.Value { return api.Value{Kind: api.Register, Text: text} }

func isCounter(n int) api.Value { return api.Value{Kind: api.Counter, N: n} }

func isSet(texts ...string) api.Value { return api.Value{Kind: api.Set, Set: texts} }

func sameValue(a, b api.Value) bool {
	return a.Kind == b.Kind && a.Text == b.Text && a.N == b.N && slices.Equal(a.Set, b.Set)
}

// plainly: a nil list and an empty one are one thing.
func plainly(c api.Commit) api.Commit {
	c = wire.CopyCommit(c)
	if len(c.When) == 0 {
		c.When = nil
	}
	if len(c.Ops) == 0 {
		c.Ops = nil
	}
	for i := range c.Ops {
		if len(c.Ops[i].Dots) == 0 {
			c.Ops[i].Dots = nil
		}
	}
	return c
}

func sameCommit(a, b api.Commit) bool {
	return reflect.DeepEqual(plainly(a), plainly(b))
}

func sameMessage(a, b wire.Message) bool {
	if !sameCommit(a.C, b.C) {
		return false
	}
	a.C, b.C = api.Commit{}, api.Commit{}
	return reflect.DeepEqual(a, b)
}

func sameSeen(a, b world.Seen) bool {
	return a.Key == b.Key && sameValue(a.V, b.V)
}

func sameEvent(a, b world.Event) bool {
	return a.Session == b.Session && a.Place == b.Place && slices.Equal(a.At, b.At) &&
		slices.EqualFunc(a.Reads, b.Reads, sameSeen) && sameCommit(a.C, b.C)
}

func wantRead(t *testing.T, name string, w *world.World, s int, key string, want api.Value) {
	t.Helper()
	if got, err := w.Read(s, key); err != nil || !sameValue(got, want) {
		t.Errorf("%s: Read(%d, %q) = %+v, %v, want %+v", name, s, key, got, err, want)
	}
}

func wantFlying(t *testing.T, name string, w *world.World, want []wire.Message) {
	t.Helper()
	if got := w.Flying(); !slices.EqualFunc(got, want, sameMessage) {
		t.Errorf("%s: flying %+v, want %+v", name, got, want)
	}
}

func wantSnapshot(t *testing.T, name string, w *world.World, p int, want ...int) {
	t.Helper()
	if got, err := w.Snapshot(p); err != nil || !slices.Equal(got, want) {
		t.Errorf("%s: Snapshot(%d) = %v, %v, want %v", name, p, got, err, want)
	}
}

func wantToken(t *testing.T, name string, w *world.World, s int, want ...int) {
	t.Helper()
	if got, err := w.Token(s); err != nil || !slices.Equal(got, want) {
		t.Errorf("%s: Token(%d) = %v, %v, want %v", name, s, got, err, want)
	}
}

func wantEvents(t *testing.T, name string, w *world.World, want ...world.Event) {
	t.Helper()
	if got := w.Events(); !slices.EqualFunc(got, want, sameEvent) {
		t.Errorf("%s: events %+v, want %+v", name, got, want)
	}
}

func TestP80New(t *testing.T) {
	wrong := []int{math.MinInt, -1, 0, 7, math.MaxInt}
	for _, n := range wrong {
		for _, c := range [][2]int{{n, 1}, {1, n}, {n, n}, {n, 6}, {6, n}} {
			if w, err := world.New(c[0], c[1]); w != nil || err != api.ErrBound {
				t.Errorf("New(%d, %d) = %v, %v, want ErrBound", c[0], c[1], w, err)
			}
		}
	}
	for places := 1; places <= api.MaxPlaces; places++ {
		for shards := 1; shards <= api.MaxShards; shards++ {
			w := newWorld(t, places, shards)
			wantFlying(t, "new", w, nil)
			wantEvents(t, "new", w)
			for p := range places {
				wantSnapshot(t, "new", w, p, make([]int, places)...)
			}
			for s := range api.MaxSessions {
				wantToken(t, "new", w, s, make([]int, places)...)
				must(t, w.Begin(s, s%places))
			}
			must(t, w.Beat(places-1))
			if got := len(w.Flying()); got != (places-1)*shards {
				t.Errorf("%d places, %d shards: a beat has %d messages", places, shards, got)
			}
		}
	}
}

// TestP80Lost: what is beyond MaxFlying is lost; what was there stays, in order, whoever sends.
func TestP80Lost(t *testing.T) {
	const places, shards = 4, 3 // a beat has 9 messages: the last one that fits does so in part
	for _, c := range []struct {
		name string
		send func(w *world.World) error
		want func(p *place.Place) []wire.Message
	}{
		{"beats", func(w *world.World) error { return w.Beat(1) }, func(p *place.Place) []wire.Message { return p.Beat() }},
		{"again", func(w *world.World) error { return w.Again(1) }, func(p *place.Place) []wire.Message { return p.Again() }},
		{"commits", func(w *world.World) error {
			do(t, w, 0, 1, counter("a", 1), counter("b", 1), counter("c", 1), counter("d", 1))
			return nil
		}, func(p *place.Place) []wire.Message {
			_, l, err := p.Commit(p.Snapshot(), []api.Op{counter("a", 1), counter("b", 1), counter("c", 1), counter("d", 1)})
			must(t, err)
			return l
		}},
	} {
		w, p := newWorld(t, places, shards), newPlace(t, 1, places, shards)
		must(t, w.Beat(1))
		sent := p.Beat()
		for range 40 {
			must(t, c.send(w))
			sent = append(sent, c.want(p)...)
			wantFlying(t, c.name, w, sent[:min(len(sent), api.MaxFlying)])
		}
		if len(sent) <= api.MaxFlying {
			t.Fatalf("%s: %d messages are too few", c.name, len(sent))
		}
	}
}

// TestP80LostComesAgain: the place keeps what was lost, and room comes as messages go.
func TestP80LostComesAgain(t *testing.T) {
	w := newWorld(t, 2, 1)
	for range api.MaxFlying {
		must(t, w.Beat(0))
	}
	do(t, w, 0, 0, counter("n", 3))
	wantErrors(t, "full", api.ErrFull, w.Twice(0))
	must(t, w.Drop(199))
	must(t, w.Beat(0))
	if l := w.Flying(); len(l) != api.MaxFlying || l[198].Seq != 199 || l[199].Seq != 202 || l[199].Time != 1 {
		t.Fatalf("flying %+v", l)
	}
	deliver(t, w)
	wantSnapshot(t, "lost", w, 1, 0, 0)
	must(t, w.Again(0))
	if l := w.Flying(); len(l) != 3 || l[0].Seq != 200 || l[1].Time != 1 || l[1].Beat {
		t.Fatalf("again %+v", l)
	}
	deliver(t, w)
	wantSnapshot(t, "come", w, 1, 1, 0)
}

func TestP81Begin(t *testing.T) {
	w := newWorld(t, 3, 2)
	for _, s := range []int{math.MinInt, -1, api.MaxSessions, math.MaxInt} {
		for _, p := range []int{0, -1, 3} {
			wantErrors(t, fmt.Sprint("session ", s), api.ErrBound, w.Begin(s, p))
		}
	}
	for _, p := range []int{math.MinInt, -1, 3, api.MaxPlaces, math.MaxInt} {
		wantErrors(t, fmt.Sprint("place ", p), api.ErrBound, w.Begin(0, p))
	}
	must(t, w.Begin(0, 2))
	wantErrors(t, "open", api.ErrHeld, w.Begin(0, 2), w.Begin(0, 0))
	wantErrors(t, "open, no place", api.ErrBound, w.Begin(0, 3))
	write(t, w, 0, counter("n", 1))
	must(t, w.Commit(0))
	wantToken(t, "done", w, 0, 0, 0, 1)
	wantErrors(t, "not there yet", api.ErrWait, w.Begin(0, 0), w.Begin(0, 1))
	must(t, w.Begin(0, 2), w.Begin(7, 0))
	wantRead(t, "there", w, 0, "n", isCounter(1))
	wantRead(t, "elsewhere", w, 7, "n", api.Value{})
	wantToken(t, "another session", w, 1, 0, 0, 0)
	must(t, w.Abort(0))
	spread(t, w, 3)
	wantRead(t, "at its at", w, 7, "n", api.Value{})
	must(t, w.Begin(0, 0))
	wantRead(t, "it has come", w, 0, "n", isCounter(1))
	wantToken(t, "the token becomes at", w, 0, 0, 0, 1)
}

// TestP81ManyAtOnePlace: all sessions have a transaction at once, each with ops of its own.
func TestP81ManyAtOnePlace(t *testing.T) {
	w := newWorld(t, 1, 1)
	for s := range api.MaxSessions {
		must(t, w.Begin(s, 0))
		write(t, w, s, counter("n", 1<<s))
	}
	for s := range api.MaxSessions {
		wantRead(t, "own", w, s, "n", isCounter(1<<s))
		must(t, w.Commit(s))
		wantToken(t, "done", w, s, s+1)
	}
	must(t, w.Begin(3, 0))
	wantRead(t, "all", w, 3, "n", isCounter(1<<api.MaxSessions-1))
}

func TestP81Write(t *testing.T) {
	for _, c := range []struct {
		name string
		o    api.Op
		want api.Value
		op   api.Op
	}{
		{"register", register("k", "x"), isRegister("x"), register("k", "x")},
		{"counter", counter("k", -4), isCounter(-4), counter("k", -4)},
		{"put", add("k", "x"), isSet("x"), add("k", "x")},
		{"drop", remove("k", "x"), isSet(), remove("k", "x")},
		{"register, and what it has not", api.Op{At: -5, Key: "k", Kind: api.Register, Text: "x", N: 7, Remove: true, Dots: make([]api.Dot, 99)}, isRegister("x"), register("k", "x")},
		{"counter, and what it has not", api.Op{At: 99, Key: "k", Kind: api.Counter, Text: strings.Repeat("x", 999), N: 7, Remove: true, Dots: []api.Dot{{Place: -1}}}, isCounter(7), counter("k", 7)},
		{"put, and what it has not", api.Op{At: math.MaxInt, Key: "k", Kind: api.Set, Text: "x", N: math.MaxInt, Dots: []api.Dot{{Time: 1}}}, isSet("x"), add("k", "x")},
		{"drop, and what it has not", api.Op{At: math.MinInt, Key: "k", Kind: api.Set, Text: "x", N: math.MinInt, Remove: true, Dots: []api.Dot{{Time: 1}}}, isSet(), remove("k", "x")},
	} {
		w := newWorld(t, 2, 1)
		must(t, w.Begin(0, 1))
		write(t, w, 0, c.o)
		wantRead(t, c.name, w, 0, "k", c.want)
		must(t, w.Commit(0))
		wantEvents(t, c.name, w, world.Event{Place: 1, At: []int{0, 0}, C: api.Commit{When: []int{0, 1}, Place: 1, Ops: []api.Op{c.op}}})
		spread(t, w, 2)
		must(t, w.Begin(0, 0))
		wantRead(t, c.name+", elsewhere", w, 0, "k", c.want)
	}
}

// TestP81Dots: a drop names the dots that the place tells, whatever dots the op has.
func TestP81Dots(t *testing.T) {
	w := newWorld(t, 2, 1)
	do(t, w, 0, 0, add("s", "a"), add("s", "b"), add("s", "a"))
	must(t, w.Begin(0, 0))
	write(t, w, 0, remove("s", "a", api.Dot{Time: 1, At: 1}))
	wantRead(t, "dropped", w, 0, "s", isSet("b"))
	must(t, w.Commit(0))
	want := remove("s", "a", api.Dot{Time: 1, At: 0}, api.Dot{Time: 1, At: 2})
	if l := w.Events(); !sameCommit(l[1].C, api.Commit{When: []int{2, 0}, Ops: []api.Op{want}}) {
		t.Errorf("events %+v", l)
	}
}

func TestP81WriteRefuses(t *testing.T) {
	w := newWorld(t, 2, 1)
	wrong := []api.Op{{}, {Key: "k"}, {Key: "k", Kind: -1}, {Key: "k", Kind: 4}, {Kind: math.MaxInt}, {Key: "K", Kind: math.MinInt}}
	all := append(slices.Clone(wrong), register("k", "x"), counter("", math.MaxInt), add("k", "x"), remove("K", "x"))
	for _, o := range all {
		for _, s := range []int{math.MinInt, -1, api.MaxSessions, math.MaxInt} {
			wantErrors(t, fmt.Sprint("session ", s), api.ErrBound, w.Write(s, o))
		}
		wantErrors(t, fmt.Sprintf("none is open, %+v", o), api.ErrNone, w.Write(0, o), w.Write(7, o))
	}
	must(t, w.Begin(0, 0))
	long := strings.Repeat("x", api.MaxText+1)
	for range 2 {
		for _, o := range wrong {
			wantErrors(t, fmt.Sprintf("no kind, %+v", o), api.ErrKind, w.Write(0, o))
		}
		for _, key := range []string{"", "K", strings.Repeat("k", api.MaxName+1)} {
			wantErrors(t, key, api.ErrName, w.Write(0, register(key, long)), w.Write(0, counter(key, 1)), w.Write(0, add(key, "x")), w.Write(0, remove(key, "x")))
		}
		wantErrors(t, "bounds", api.ErrBound, w.Write(0, register("k", long)), w.Write(0, counter("k", api.MaxTime+1)), w.Write(0, add("k", long)), w.Write(0, remove("k", long)))
		wantRead(t, "refused", w, 0, "k", api.Value{})
		write(t, w, 0, counter("n", 1))
	}
	for range api.MaxOps - 2 {
		write(t, w, 0, counter("n", 1))
	}
	for _, o := range wrong {
		wantErrors(t, "full, but no kind", api.ErrKind, w.Write(0, o))
	}
	wantErrors(t, "full", api.ErrFull, w.Write(0, register("k", "x")), w.Write(0, counter("K", 1)), w.Write(0, add("k", long)), w.Write(0, remove("k", "x")))
	wantRead(t, "full", w, 0, "n", isCounter(api.MaxOps))
	must(t, w.Abort(0))
	wantErrors(t, "aborted", api.ErrNone, w.Write(0, api.Op{}), w.Write(0, counter("n", 1)))
}

func TestP81ReadRefuses(t *testing.T) {
	w := newWorld(t, 2, 1)
	refused := func(name string, s int, key string, want error) {
		t.Helper()
		if v, err := w.Read(s, key); !sameValue(v, api.Value{}) || err != want {
			t.Errorf("%s: Read(%d, %q) = %v, %v, want %v", name, s, key, v, err, want)
		}
	}
	for _, key := range []string{"k", "", "K"} {
		for _, s := range []int{math.MinInt, -1, api.MaxSessions, math.MaxInt} {
			refused("no session", s, key, api.ErrBound)
		}
		refused("none is open", 0, key, api.ErrNone)
	}
	must(t, w.Begin(0, 0))
	write(t, w, 0, register("k", "x"))
	for _, key := range []string{"", "K", "a b", strings.Repeat("k", api.MaxName+1)} {
		refused("no name", 0, key, api.ErrName)
	}
	refused("another one", 1, "k", api.ErrNone)
	wantRead(t, "its own", w, 0, "k", isRegister("x"))
}

func TestP81CommitAndAbort(t *testing.T) {
	w, p := newWorld(t, 3, 2), newPlace(t, 1, 3, 2)
	for _, s := range []int{math.MinInt, -1, api.MaxSessions, math.MaxInt} {
		wantErrors(t, fmt.Sprint("session ", s), api.ErrBound, w.Commit(s), w.Abort(s))
	}
	for s := range api.MaxSessions {
		wantErrors(t, "none is open", api.ErrNone, w.Commit(s), w.Abort(s))
	}
	ops := []api.Op{register("a", "x"), counter("b", 2), add("c", "y"), counter("d", 3), add("e", "z")}
	must(t, w.Begin(4, 1))
	write(t, w, 4, ops...)
	wantFlying(t, "open", w, nil)
	wantSnapshot(t, "open", w, 1, 0, 0, 0)
	must(t, w.Commit(4))
	_, sent, err := p.Commit([]int{0, 0, 0}, ops)
	must(t, err)
	if len(sent) != 4 {
		t.Fatalf("%d messages: the keys are not of two shards", len(sent))
	}
	wantFlying(t, "committed", w, sent)
	wantSnapshot(t, "committed", w, 1, 0, 1, 0)
	wantErrors(t, "at its end", api.ErrNone, w.Commit(4), w.Abort(4))
	must(t, w.Begin(4, 1))
	write(t, w, 4, ops...)
	must(t, w.Abort(4))
	wantFlying(t, "aborted", w, sent)
	wantSnapshot(t, "aborted", w, 1, 0, 1, 0)
	wantErrors(t, "aborted", api.ErrNone, w.Commit(4), w.Abort(4))
	must(t, w.Begin(4, 1), w.Commit(4))
	wantFlying(t, "without ops", w, sent)
	wantSnapshot(t, "without ops", w, 1, 0, 1, 0)
	wantToken(t, "without ops", w, 4, 0, 1, 0)
	do(t, w, 5, 1, ops[0])
	_, more, err := p.Commit([]int{0, 1, 0}, ops[:1])
	must(t, err)
	wantFlying(t, "behind the others", w, append(sent, more...))
}

func TestP82Deliver(t *testing.T) {
	w := newWorld(t, 3, 1)
	a, b := newPlace(t, 0, 3, 1), newPlace(t, 2, 3, 1)
	do(t, w, 0, 0, counter("n", 1))
	do(t, w, 1, 2, counter("n", 2))
	_, l, err := a.Commit([]int{0, 0, 0}, []api.Op{counter("n", 1)})
	must(t, err)
	_, more, err := b.Commit([]int{0, 0, 0}, []api.Op{counter("n", 2)})
	must(t, err)
	l = append(l, more...)
	wantFlying(t, "0 to 1, 0 to 2, 2 to 0, 2 to 1", w, l)
	must(t, w.Deliver(1))
	ack := wire.Message{From: 2, To: 0, Seq: 1, Time: -1}
	wantFlying(t, "its ack is behind all others", w, []wire.Message{l[0], l[2], l[3], ack})
	wantSnapshot(t, "heard", w, 2, 1, 0, 1)
	wantSnapshot(t, "not heard", w, 1, 0, 0, 0)
	wantSnapshot(t, "not heard", w, 0, 1, 0, 0)
	must(t, w.Deliver(3))
	wantFlying(t, "an ack has no answer", w, []wire.Message{l[0], l[2], l[3]})
	must(t, w.Again(0))
	wantFlying(t, "what is acked is not sent again", w, []wire.Message{l[0], l[2], l[3], l[0]})
	for _, at := range []int{math.MinInt, -1, 4, api.MaxFlying, math.MaxInt} {
		wantErrors(t, fmt.Sprint("message ", at), api.ErrNone, w.Deliver(at), w.Drop(at), w.Twice(at))
	}
	wantFlying(t, "refused", w, []wire.Message{l[0], l[2], l[3], l[0]})
	deliver(t, w)
	wantErrors(t, "nothing flies", api.ErrNone, w.Deliver(0), w.Drop(0), w.Twice(0))
	for p, want := range [][]int{{1, 0, 1}, {1, 0, 1}, {1, 0, 1}} {
		wantSnapshot(t, "all", w, p, want...)
		must(t, w.Begin(4, p))
		wantRead(t, "all", w, 4, "n", isCounter(3))
		must(t, w.Abort(4))
	}
}

// TestP82DeliverTooFarAhead: what its place refuses has gone all the same, without an answer, and comes by Again.
func TestP82DeliverTooFarAhead(t *testing.T) {
	w := newWorld(t, 2, 1)
	do(t, w, 0, 0, counter("n", 1))
	must(t, w.Drop(0))
	for range api.MaxFlying {
		must(t, w.Beat(0))
	}
	for range api.MaxFlying {
		must(t, w.Drop(0))
	}
	must(t, w.Beat(0))
	if l := w.Flying(); len(l) != 1 || l[0].Seq != api.MaxFlying+2 {
		t.Fatalf("flying %+v", l)
	}
	must(t, w.Deliver(0))
	wantFlying(t, "refused", w, nil)
	wantSnapshot(t, "refused", w, 1, 0, 0)
	for range 2 {
		must(t, w.Again(0))
		deliver(t, w)
	}
	wantSnapshot(t, "come", w, 1, 1, 0)
	must(t, w.Again(0))
	wantFlying(t, "all acked", w, nil)
}

func TestP82DropAndTwice(t *testing.T) {
	w := newWorld(t, 4, 1)
	must(t, w.Beat(2))
	l := w.Flying()
	must(t, w.Twice(1))
	wantFlying(t, "right behind itself", w, []wire.Message{l[0], l[1], l[1], l[2]})
	must(t, w.Twice(3))
	wantFlying(t, "the last one", w, []wire.Message{l[0], l[1], l[1], l[2], l[2]})
	must(t, w.Twice(0))
	wantFlying(t, "the first one", w, []wire.Message{l[0], l[0], l[1], l[1], l[2], l[2]})
	must(t, w.Drop(2))
	wantFlying(t, "dropped", w, []wire.Message{l[0], l[0], l[1], l[2], l[2]})
	must(t, w.Drop(4), w.Drop(0))
	wantFlying(t, "the last one, the first one", w, l)
	for range api.MaxFlying - len(l) {
		must(t, w.Twice(1))
	}
	wantErrors(t, "full", api.ErrFull, w.Twice(0), w.Twice(api.MaxFlying-1))
	wantErrors(t, "full, but no such message", api.ErrNone, w.Twice(-1), w.Twice(api.MaxFlying))
	if got := w.Flying(); len(got) != api.MaxFlying || !sameMessage(got[api.MaxFlying-1], l[2]) {
		t.Errorf("%d messages", len(got))
	}
	must(t, w.Deliver(0))
	if got := w.Flying(); len(got) != api.MaxFlying || got[api.MaxFlying-1].Time != -1 {
		t.Errorf("a full world has room for the answer of what has gone: %d messages", len(got))
	}
	must(t, w.Drop(0), w.Twice(0))
	wantErrors(t, "full again", api.ErrFull, w.Twice(0))
}

// TestP82Doubled: a commit that comes twice counts once.
func TestP82Doubled(t *testing.T) {
	w := newWorld(t, 2, 1)
	do(t, w, 0, 0, counter("n", 5))
	must(t, w.Twice(0), w.Twice(0), w.Again(0))
	deliver(t, w)
	must(t, w.Begin(0, 1))
	wantRead(t, "once", w, 0, "n", isCounter(5))
}

func TestP82BeatAndAgain(t *testing.T) {
	w, p := newWorld(t, 3, 2), newPlace(t, 1, 3, 2)
	for _, n := range []int{math.MinInt, -1, 3, api.MaxPlaces, math.MaxInt} {
		wantErrors(t, fmt.Sprint("place ", n), api.ErrBound, w.Beat(n), w.Again(n), w.Prune(n))
	}
	wantFlying(t, "refused", w, nil)
	must(t, w.Again(1))
	wantFlying(t, "nothing was sent", w, nil)
	must(t, w.Beat(1))
	l := p.Beat()
	wantFlying(t, "beat", w, l)
	do(t, w, 0, 1, counter("n", 1))
	_, sent, err := p.Commit([]int{0, 0, 0}, []api.Op{counter("n", 1)})
	must(t, err)
	must(t, w.Beat(1))
	l = append(append(l, sent...), p.Beat()...)
	wantFlying(t, "with the clock", w, l)
	must(t, w.Again(1))
	l = append(l, p.Again()...)
	wantFlying(t, "again", w, l)
	must(t, w.Again(0), w.Again(2))
	wantFlying(t, "others sent nothing", w, l)
	deliver(t, w)
	must(t, w.Again(1))
	wantFlying(t, "all acked", w, nil)
}

// TestP82PruneIsNotSeen: what may be read is the same, at all places, by what is open and by what begins.
func TestP82PruneIsNotSeen(t *testing.T) {
	w := newWorld(t, 2, 1)
	do(t, w, 0, 0, counter("n", 1), add("s", "a"), register("r", "x"))
	must(t, w.Begin(1, 0), w.Begin(2, 1))
	do(t, w, 0, 0, counter("n", 2), remove("s", "a"), register("r", "y"))
	spread(t, w, 2)
	must(t, w.Begin(3, 1))
	do(t, w, 0, 0, counter("n", 4), add("s", "b"), register("r", "z"))
	spread(t, w, 2)
	must(t, w.Begin(4, 0))
	for range 2 {
		must(t, w.Prune(0), w.Prune(1))
		for s, want := range [][3]api.Value{
			{isCounter(1), isSet("a"), isRegister("x")},
			{},
			{isCounter(3), isSet(), isRegister("y")},
			{isCounter(7), isSet("b"), isRegister("z")},
		} {
			for i, key := range []string{"n", "s", "r"} {
				wantRead(t, "pruned", w, s+1, key, want[i])
			}
		}
	}
	must(t, w.Write(2, remove("s", "a")), w.Write(1, remove("s", "a")))
	for s := 1; s <= 4; s++ {
		must(t, w.Commit(s))
		must(t, w.Prune(0), w.Prune(1))
	}
	spread(t, w, 2)
	must(t, w.Prune(0), w.Prune(1))
	for p := range 2 {
		must(t, w.Begin(5, p))
		wantRead(t, "all", w, 5, "n", isCounter(7))
		wantRead(t, "all", w, 5, "s", isSet("b"))
		must(t, w.Commit(5))
	}
}

func TestP83Events(t *testing.T) {
	w := newWorld(t, 2, 1)
	must(t, w.Begin(3, 1), w.Begin(5, 1), w.Begin(6, 0))
	wantRead(t, "", w, 5, "n", api.Value{})
	write(t, w, 3, counter("n", 2), counter("n", 3))
	wantRead(t, "behind an op", w, 3, "n", isCounter(5))
	wantEvents(t, "nothing is committed", w)
	must(t, w.Commit(3), w.Begin(3, 1))
	wantRead(t, "", w, 3, "n", isCounter(5))
	wantRead(t, "", w, 3, "m", api.Value{})
	wantRead(t, "twice", w, 3, "n", isCounter(5))
	write(t, w, 3, add("s", "a"))
	wantRead(t, "behind an op", w, 3, "s", isSet("a"))
	wantRead(t, "behind an op", w, 3, "n", isCounter(5))
	must(t, w.Commit(3), w.Commit(5))
	wantRead(t, "", w, 6, "n", api.Value{})
	must(t, w.Abort(6))
	must(t, w.Begin(6, 1))
	wantRead(t, "", w, 6, "s", isSet("a"))
	must(t, w.Commit(6))
	n := []api.Op{counter("n", 2), counter("n", 3)}
	n[1].At = 1
	wantEvents(t, "by commits", w,
		world.Event{Session: 3, Place: 1, At: []int{0, 0}, C: api.Commit{When: []int{0, 1}, Place: 1, Ops: n}},
		world.Event{Session: 3, Place: 1, At: []int{0, 1}, Reads: []world.Seen{{Key: "n", V: isCounter(5)}, {Key: "m"}, {Key: "n", V: isCounter(5)}}, C: api.Commit{When: []int{0, 2}, Place: 1, Ops: []api.Op{add("s", "a")}}},
		world.Event{Session: 5, Place: 1, At: []int{0, 0}, Reads: []world.Seen{{Key: "n"}}, C: api.Commit{When: []int{0, 0}, Place: 1}},
		world.Event{Session: 6, Place: 1, At: []int{0, 2}, Reads: []world.Seen{{Key: "s", V: isSet("a")}}, C: api.Commit{When: []int{0, 2}, Place: 1}},
	)
}

// TestP83Refused: a read that was refused is none, nor is an op that was refused the first one.
func TestP83Refused(t *testing.T) {
	w := newWorld(t, 1, 1)
	must(t, w.Begin(0, 0))
	w.Read(0, "K")
	w.Read(1, "n")
	wantRead(t, "", w, 0, "a", api.Value{})
	w.Write(0, counter("K", 1))
	w.Write(0, api.Op{Key: "a"})
	w.Write(1, counter("a", 1))
	w.Begin(0, 0)
	w.Begin(0, 9)
	wantRead(t, "", w, 0, "b", api.Value{})
	write(t, w, 0, counter("n", 1))
	w.Write(0, counter("K", 1))
	w.Write(0, api.Op{})
	wantRead(t, "", w, 0, "c", api.Value{})
	must(t, w.Commit(0))
	w.Commit(0)
	w.Abort(0)
	want := world.Event{At: []int{0}, Reads: []world.Seen{{Key: "a"}, {Key: "b"}}, C: api.Commit{When: []int{1}, Ops: []api.Op{counter("n", 1)}}}
	wantEvents(t, "refused", w, want)
	must(t, w.Begin(0, 0), w.Commit(0))
	wantEvents(t, "nothing of the one ahead", w, want, world.Event{At: []int{1}, C: api.Commit{When: []int{1}}})
}

// TestP83AtMost: the first MaxEvents ones are told, and the world goes on.
func TestP83AtMost(t *testing.T) {
	w := newWorld(t, 2, 1)
	must(t, w.Begin(1, 0), w.Begin(2, 0))
	wantRead(t, "ahead of the last one", w, 1, "n", api.Value{})
	wantRead(t, "ahead of the last one", w, 2, "n", api.Value{})
	var want []world.Event
	for i := range api.MaxEvents - 1 {
		must(t, w.Begin(0, 0))
		seen := world.Seen{Key: "n"}
		if i > 0 {
			seen.V = isCounter(i)
		}
		wantRead(t, "", w, 0, "n", seen.V)
		write(t, w, 0, counter("n", 1))
		must(t, w.Commit(0))
		want = append(want, world.Event{At: []int{i, 0}, Reads: []world.Seen{seen}, C: api.Commit{When: []int{i + 1, 0}, Ops: []api.Op{counter("n", 1)}}})
	}
	wantEvents(t, "all but one", w, want...)
	must(t, w.Begin(3, 0))
	must(t, w.Commit(1))
	want = append(want, world.Event{Session: 1, At: []int{0, 0}, Reads: []world.Seen{{Key: "n"}}, C: api.Commit{When: []int{0, 0}}})
	wantEvents(t, "all", w, want...)
	wantRead(t, "behind the last one", w, 3, "n", isCounter(api.MaxEvents-1))
	must(t, w.Commit(2), w.Commit(3))
	do(t, w, 0, 0, counter("n", 1))
	wantEvents(t, "the first ones", w, want...)
	wantSnapshot(t, "it goes on", w, 0, api.MaxEvents, 0)
	must(t, w.Begin(0, 0))
	wantRead(t, "it goes on", w, 0, "n", isCounter(api.MaxEvents))
}

func TestP83Counts(t *testing.T) {
	for places := 1; places <= api.MaxPlaces; places++ {
		w := newWorld(t, places, 2)
		for range 30 {
			if n := w.CountPlaces(); n != places {
				t.Errorf("%d places, want %d", n, places)
			}
			if n := w.CountFlying(); n != len(w.Flying()) {
				t.Errorf("%d fly, want %d", n, len(w.Flying()))
			}
			must(t, w.Beat(0))
			_ = w.Drop(0)
		}
	}
}

func TestP83SnapshotAndToken(t *testing.T) {
	w := newWorld(t, 2, 1)
	for _, n := range []int{math.MinInt, -1, 2, 6, math.MaxInt} {
		if v, err := w.Snapshot(n); len(v) != 0 || err != api.ErrBound {
			t.Errorf("Snapshot(%d) = %v, %v", n, v, err)
		}
	}
	for _, n := range []int{math.MinInt, -1, api.MaxSessions, math.MaxInt} {
		if v, err := w.Token(n); len(v) != 0 || err != api.ErrBound {
			t.Errorf("Token(%d) = %v, %v", n, v, err)
		}
	}
	do(t, w, 7, 1, counter("n", 1))
	wantSnapshot(t, "done", w, 1, 0, 1)
	wantSnapshot(t, "not come", w, 0, 0, 0)
	wantToken(t, "done", w, 7, 0, 1)
	wantToken(t, "another one", w, 6, 0, 0)
	deliver(t, w)
	wantSnapshot(t, "come", w, 0, 0, 1)
	wantToken(t, "another one", w, 6, 0, 0)
	must(t, w.Begin(6, 0))
	wantToken(t, "begun", w, 6, 0, 1)
}
