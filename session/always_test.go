package session_test

import (
	"fmt"
	"math/rand"
	"slices"
	"testing"

	"causeway/api"
	"causeway/place"
	"causeway/session"
	"causeway/values"
	"causeway/vector"
	"causeway/wire"
)

// client is a session, and what must hold of it, kept beside it.
type client struct {
	*session.Session
	at    int // the place of its transaction
	when  []int
	own   []api.Op
	done  []api.Commit // its own, all of which it must see
	known []int        // the most of all that it has seen and done
}

// town: places, what flies between them, sessions that go from place to place, and all that was ever committed.
type town struct {
	t       *testing.T
	random  *rand.Rand
	keys    []string
	places  []*place.Place
	clients []*client
	flying  []wire.Message
	commits []api.Commit
	told    []string
	waited  int
}

func newTown(t *testing.T, seed int64, places, shards int) *town {
	w := &town{t: t, random: rand.New(rand.NewSource(seed))}
	for id := range places {
		w.places = append(w.places, newPlace(t, id, places, shards))
	}
	for range 4 {
		w.clients = append(w.clients, &client{Session: newSession(t, places), known: make([]int, places)})
	}
	for _, kind := range []string{"r", "n", "s", "m"} {
		for i := range 2 {
			w.keys = append(w.keys, fmt.Sprint(kind, i))
		}
	}
	return w
}

func (w *town) within(a, b []int) bool {
	in, err := vector.Within(a, b)
	if err != nil {
		w.t.Fatal(err)
	}
	return in
}

// seen are all commits within a vector, wherever they were made.
func (w *town) seen(at []int) []api.Commit {
	var l []api.Commit
	for _, c := range w.commits {
		if w.within(c.When, at) {
			l = append(l, c)
		}
	}
	return l
}

func (w *town) begin(c *client) {
	id := w.random.Intn(len(w.places))
	at, err := c.Begin(w.places[id])
	if !w.within(c.known, w.places[id].Snapshot()) {
		if err != api.ErrWait {
			w.t.Fatalf("Begin = %v, %v: %v is not seen there", at, err, c.known)
		}
		w.waited++
		return
	}
	if err != nil || !slices.Equal(at, w.places[id].Snapshot()) || !w.within(c.known, at) {
		w.t.Fatalf("Begin = %v, %v", at, err)
	}
	c.at, c.when, c.own, c.known = id, at, nil, at
	for _, done := range c.done {
		if !w.within(done.When, at) {
			w.t.Fatalf("%v does not see what it did at %v", at, done.When)
		}
	}
}

// write an op of a kind that its key tells; of keys that begin with m: of any kind.
func (w *town) write(c *client) {
	key := w.keys[w.random.Intn(len(w.keys))]
	kind := key[0]
	if kind == 'm' {
		kind = "rns"[w.random.Intn(3)]
	}
	text, n := fmt.Sprint("t", w.random.Intn(4)), w.random.Intn(9)-4
	var o api.Op
	var err error
	switch {
	case kind == 'r':
		o, err = register(key, text), c.Set(key, text)
	case kind == 'n':
		o, err = counter(key, n), c.Add(key, n)
	case w.random.Intn(2) == 0:
		o, err = add(key, text), c.Put(key, text)
	default:
		dots, wrong := values.Dots(key, text, w.seen(c.when))
		if wrong != nil {
			w.t.Fatal(wrong)
		}
		o, err = remove(key, text, dots[:min(len(dots), api.MaxDots)]...), c.Drop(key, text)
	}
	if len(c.own) == api.MaxOps {
		if err != api.ErrFull {
			w.t.Fatalf("full: %v", err)
		}
		return
	}
	mustDo(w.t, err)
	o.At = len(c.own)
	c.own = append(c.own, o)
}

// check what a session reads: all commits within its at, then one of its own ops, heavier than all of them.
func (w *town) check(c *client) {
	l := w.seen(c.when)
	if len(c.own) > 0 {
		own := api.Commit{When: slices.Clone(c.when), Place: c.at, Ops: c.own}
		own.When[c.at] = api.MaxTime
		l = append(l, own)
	}
	for _, key := range w.keys {
		want, err := values.Of(key, l)
		if err != nil {
			w.t.Fatal(err)
		}
		wantRead(w.t, fmt.Sprint("at ", c.when, ", own ", c.own), c.Session, key, want)
		w.told = append(w.told, fmt.Sprint(c.when, key, want))
	}
}

func (w *town) commit(c *client) {
	got, l := mustCommit(w.t, c.Session)
	want := api.Commit{When: slices.Clone(c.when), Place: c.at, Ops: c.own}
	if len(c.own) > 0 {
		want.When[c.at] = w.places[c.at].Clock()
		w.commits = append(w.commits, got)
		c.done = append(c.done, got)
	}
	if !sameCommit(got, want) || len(c.own) == 0 && len(l) != 0 {
		w.t.Fatalf("Commit = %+v, %v, want %+v", got, l, want)
	}
	c.known = got.When
	w.flying = append(w.flying, l...)
}

func (w *town) session() {
	c := w.clients[w.random.Intn(len(w.clients))]
	n := w.random.Intn(10)
	switch {
	case !c.Open():
		w.begin(c)
	case n == 0:
		mustDo(w.t, c.Abort())
	case n < 3:
		w.commit(c)
	default:
		w.write(c)
	}
	if c.Open() {
		w.check(c)
	}
	wantToken(w.t, "token", c.Session, c.known...)
}

func (w *town) deliver(at int) {
	m := w.flying[at]
	w.flying = slices.Delete(w.flying, at, at+1)
	l, err := w.places[m.To].Hear(m)
	if err != nil && err != api.ErrFull {
		w.t.Fatalf("Hear(%+v) = %v", m, err)
	}
	w.flying = append(w.flying, l...)
}

func (w *town) step() {
	p := w.places[w.random.Intn(len(w.places))]
	n := w.random.Intn(20)
	switch {
	case n < 8:
		w.session()
	case n == 8 && len(w.flying) < 60:
		w.flying = append(w.flying, p.Beat()...)
	case n == 9 && len(w.flying) < 60:
		w.flying = append(w.flying, p.Again()...)
	case len(w.flying) == 0:
	case n == 10:
		at := w.random.Intn(len(w.flying))
		w.flying = slices.Delete(w.flying, at, at+1)
	case n == 11:
		w.flying = append(w.flying, w.flying[w.random.Intn(len(w.flying))])
	default:
		w.deliver(w.random.Intn(len(w.flying)))
	}
}

func play(t *testing.T, seed int64, places, shards, steps int) *town {
	w := newTown(t, seed, places, shards)
	for range steps {
		w.step()
	}
	return w
}

func TestP73SeesWhatItHasSeenAndDone(t *testing.T) {
	seed, waited, moved := int64(0), 0, 0
	for places := 1; places <= 4; places++ {
		for shards := 1; shards <= 3; shards++ {
			for range 4 {
				seed++
				w := play(t, seed, places, shards, 1000)
				waited += w.waited
				for _, c := range w.clients {
					for i := range c.done {
						if i > 0 && c.done[i].Place != c.done[i-1].Place {
							moved++
						}
					}
				}
			}
		}
	}
	// A play in which nobody had to wait, or nobody went elsewhere, would tell nothing.
	if waited < 100 || moved < 100 {
		t.Errorf("sessions waited %d times, moved %d times", waited, moved)
	}
}

// TestP73ByName: what was read and done at one place is there at the next one, or the session waits.
func TestP73ByName(t *testing.T) {
	a, b, c := newPlace(t, 0, 3, 1), newPlace(t, 1, 3, 1), newPlace(t, 2, 3, 1)
	first := put(t, a, register("r", "seen"))
	hear(t, b, first)
	s := begun(t, b)
	wantRead(t, "at b", s, "r", isRegister("seen"))
	mustDo(t, s.Set("q", "done"))
	_, second := mustCommit(t, s)
	wantRefused(t, "neither has come", s, c, api.ErrWait)
	hear(t, c, second)
	wantRefused(t, "what it did has come, what it saw has not", s, c, api.ErrWait)
	wantRefused(t, "what it did has not come back", s, a, api.ErrWait)
	hear(t, c, first)
	mustBegin(t, s, c)
	wantRead(t, "at c", s, "r", isRegister("seen"))
	wantRead(t, "at c", s, "q", isRegister("done"))
	wantToken(t, "at c", s, 1, 1, 0)
}

// TestP2SameCallsSameAnswers: nothing else has a say.
func TestP2SameCallsSameAnswers(t *testing.T) {
	for seed := range int64(5) {
		a, b := play(t, seed, 3, 3, 200), play(t, seed, 3, 3, 200)
		if !slices.Equal(a.told, b.told) || !slices.EqualFunc(a.flying, b.flying, sameMessage) || !slices.EqualFunc(a.commits, b.commits, sameCommit) {
			t.Errorf("seed %d: two plays tell two things", seed)
		}
	}
}
