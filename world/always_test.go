package world_test

import (
	"fmt"
	"math/rand"
	"slices"
	"testing"

	"causeway/api"
	"causeway/place"
	"causeway/session"
	"causeway/values"
	"causeway/vector"
	"causeway/wire"
	"causeway/world"
)

// visit is a session of the second telling, with what is told of its transaction.
type visit struct {
	*session.Session
	event world.Event
	wrote bool
}

// twin: a world, and a second telling of it, of places that are never pruned. Each call is made of both, and both answers are held against each other.
type twin struct {
	*world.World
	t       *testing.T
	random  *rand.Rand
	keys    []string
	places  []*place.Place
	visits  []*visit
	flying  []wire.Message
	events  []world.Event
	commits []api.Commit // with ops, all there ever were
	done    map[string]int
}

func newTwin(t *testing.T, seed int64, places, shards int) *twin {
	w := &twin{World: newWorld(t, places, shards), t: t, random: rand.New(rand.NewSource(seed)), done: map[string]int{}}
	for id := range places {
		w.places = append(w.places, newPlace(t, id, places, shards))
	}
	for range api.MaxSessions {
		s, err := session.New(places)
		must(t, err)
		w.visits = append(w.visits, &visit{Session: s})
	}
	for _, kind := range []string{"r", "n", "s", "m"} {
		for i := range 2 {
			w.keys = append(w.keys, fmt.Sprint(kind, i))
		}
	}
	return w
}

// any number of so many, or now and then the one ahead of them or behind them.
func (w *twin) any(of int) int {
	switch w.random.Intn(20) {
	case 0:
		return -1
	case 1:
		return of
	}
	return w.random.Intn(max(of, 1))
}

// session number, mostly of one that has a transaction open, or has none.
func (w *twin) session(open bool) int {
	s := w.any(len(w.visits))
	for range 8 {
		if isOf(s, len(w.visits)) && w.visits[s].Open() != open {
			s = w.any(len(w.visits))
		}
	}
	return s
}

func isOf(n, of int) bool { return n >= 0 && n < of }

func (w *twin) same(name string, got, want error) {
	w.t.Helper()
	if got != want {
		w.t.Fatalf("%s: %v, want %v", name, got, want)
	}
	if want == nil {
		w.done[name]++
	} else {
		w.done["no "+name]++
	}
}

func (w *twin) send(l []wire.Message) {
	for _, m := range l {
		if len(w.flying) < api.MaxFlying {
			w.flying = append(w.flying, m)
		}
	}
}

func (w *twin) begin() {
	s, p := w.session(false), w.any(len(w.places))
	got := w.Begin(s, p)
	if !isOf(s, len(w.visits)) || !isOf(p, len(w.places)) {
		w.same("begin", got, api.ErrBound)
		return
	}
	v := w.visits[s]
	at, err := v.Begin(w.places[p])
	w.same("begin", got, err)
	if err == nil {
		v.event, v.wrote = world.Event{Session: s, Place: p, At: at}, false
	}
}

func (w *twin) read() {
	s, key := w.session(true), w.keys[w.random.Intn(len(w.keys))]
	if w.random.Intn(20) == 0 {
		key = "no name"
	}
	got, err := w.Read(s, key)
	if !isOf(s, len(w.visits)) {
		w.same("read", err, api.ErrBound)
		return
	}
	v := w.visits[s]
	want, wrong := v.Session.Read(key)
	w.same("read", err, wrong)
	if !sameValue(got, want) {
		w.t.Fatalf("Read(%d, %q) = %+v, want %+v", s, key, got, want)
	}
	if wrong == nil && !v.wrote {
		v.event.Reads = append(v.event.Reads, world.Seen{Key: key, V: want})
	}
}

// op of a kind that its key tells, mostly; of keys that begin with m: of any kind.
func (w *twin) op() api.Op {
	key := w.keys[w.random.Intn(len(w.keys))]
	o := api.Op{At: w.random.Intn(99), Key: key, Text: fmt.Sprint("t", w.random.Intn(4)), N: w.random.Intn(9) - 4, Remove: w.random.Intn(2) == 0, Dots: make([]api.Dot, w.random.Intn(3))}
	switch key[0] {
	case 'r':
		o.Kind = api.Register
	case 'n':
		o.Kind = api.Counter
	case 's':
		o.Kind = api.Set
	default:
		o.Kind = w.any(3) + 1
	}
	if w.random.Intn(20) == 0 {
		o.Key = ""
	}
	return o
}

func (w *twin) write() {
	s, o := w.session(true), w.op()
	got := w.Write(s, o)
	if !isOf(s, len(w.visits)) {
		w.same("write", got, api.ErrBound)
		return
	}
	v := w.visits[s]
	var want error
	switch {
	case !v.Open():
		want = api.ErrNone
	case o.Kind == api.Register:
		want = v.Set(o.Key, o.Text)
	case o.Kind == api.Counter:
		want = v.Add(o.Key, o.N)
	case o.Kind == api.Set && o.Remove:
		want = v.Drop(o.Key, o.Text)
	case o.Kind == api.Set:
		want = v.Put(o.Key, o.Text)
	default:
		want = api.ErrKind
	}
	w.same("write", got, want)
	v.wrote = v.wrote || want == nil
}

func (w *twin) end() {
	s, abort := w.session(true), w.random.Intn(4) == 0
	if !isOf(s, len(w.visits)) {
		w.same("commit", w.Commit(s), api.ErrBound)
		w.same("abort", w.Abort(s), api.ErrBound)
		return
	}
	v := w.visits[s]
	if abort {
		w.same("abort", w.Abort(s), v.Abort())
		return
	}
	c, l, err := v.Commit()
	w.same("commit", w.Commit(s), err)
	if err != nil {
		return
	}
	w.send(l)
	if len(c.Ops) > 0 {
		w.commits = append(w.commits, c)
	}
	v.event.C = c
	if len(w.events) < api.MaxEvents {
		w.events = append(w.events, v.event)
	}
}

// take a message off the second telling.
func (w *twin) take(at int) (wire.Message, error) {
	if !isOf(at, len(w.flying)) {
		return wire.Message{}, api.ErrNone
	}
	m := w.flying[at]
	w.flying = append(slices.Clone(w.flying[:at]), w.flying[at+1:]...)
	return m, nil
}

func (w *twin) deliver() {
	at := w.any(len(w.flying))
	m, err := w.take(at)
	w.same("deliver", w.Deliver(at), err)
	if err != nil {
		return
	}
	l, err := w.places[m.To].Hear(m)
	if err != nil && err != api.ErrFull {
		w.t.Fatalf("Hear(%+v) = %v", m, err)
	}
	w.send(l)
}

func (w *twin) drop() {
	at := w.any(len(w.flying))
	_, err := w.take(at)
	w.same("drop", w.Drop(at), err)
}

func (w *twin) twice() {
	at := w.any(len(w.flying))
	var want error
	switch {
	case !isOf(at, len(w.flying)):
		want = api.ErrNone
	case len(w.flying) == api.MaxFlying:
		want = api.ErrFull
	default:
		w.flying = append(append(slices.Clone(w.flying[:at]), w.flying[at]), w.flying[at:]...)
	}
	w.same("twice", w.Twice(at), want)
}

// ask a place to beat, to send again, or to prune (which the second telling does not do).
func (w *twin) ask(what int) {
	p := w.any(len(w.places))
	got := []func(int) error{w.Beat, w.Again, w.Prune}[what](p)
	name := []string{"beat", "again", "prune"}[what]
	if !isOf(p, len(w.places)) {
		w.same(name, got, api.ErrBound)
		return
	}
	w.same(name, got, nil)
	switch what {
	case 0:
		w.send(w.places[p].Beat())
	case 1:
		w.send(w.places[p].Again())
	}
}

func (w *twin) step() {
	switch n := w.random.Intn(40); {
	case n < 4:
		w.begin()
	case n < 8:
		w.read()
	case n < 14:
		w.write()
	case n < 18:
		w.end()
	case n == 18:
		w.drop()
	case n == 19:
		w.twice()
	case n == 20:
		w.ask(0)
	case n == 21:
		w.ask(1)
	case n == 22:
		w.ask(2)
	default:
		w.deliver()
	}
}

// check all that is told behind a call.
func (w *twin) check() {
	w.t.Helper()
	for p, here := range w.places {
		wantSnapshot(w.t, "twin", w.World, p, here.Snapshot()...)
	}
	for s, v := range w.visits {
		wantToken(w.t, "twin", w.World, s, v.Token()...)
	}
	wantFlying(w.t, "twin", w.World, w.flying)
	wantEvents(w.t, "twin", w.World, w.events...)
	if w.t.Failed() {
		w.t.FailNow()
	}
}

func play(t *testing.T, seed int64, places, shards, steps int) *twin {
	w := newTwin(t, seed, places, shards)
	for i := range steps {
		w.step()
		if i%10 == 0 || i == steps-1 {
			w.check()
		}
	}
	return w
}

// seen are all commits within a vector.
func (w *twin) seen(at []int) []api.Commit {
	var l []api.Commit
	for _, c := range w.commits {
		in, err := vector.Within(c.When, at)
		must(w.t, err)
		if in {
			l = append(l, c)
		}
	}
	return l
}

// TestP82AnyCalls: any calls, wrong ones too: the world does what its places and sessions do, pruned or not; and what was read is what all commits within at make.
func TestP82AnyCalls(t *testing.T) {
	seed, done := int64(0), map[string]int{}
	for places := 1; places <= 4; places++ {
		for _, shards := range []int{1, 2, 6} {
			for range 3 {
				seed++
				w := play(t, seed, places, shards, 1500)
				for name, n := range w.done {
					done[name] += n
				}
				for _, e := range w.Events() {
					for _, r := range e.Reads {
						if v, err := values.Of(r.Key, w.seen(e.At)); err != nil || !sameValue(v, r.V) {
							t.Fatalf("%+v: %q is %+v, %v", e, r.Key, v, err)
						}
					}
				}
			}
		}
	}
	// Calls that never went well, or never went wrong, would tell nothing.
	for _, name := range []string{"begin", "read", "write", "commit", "abort", "deliver", "drop", "twice", "beat", "again", "prune"} {
		if done[name] < 20 || done["no "+name] < 20 {
			t.Errorf("%s: %d times, refused %d times", name, done[name], done["no "+name])
		}
	}
}

// settle: all that is sent comes, and places beat, until they all have the same snapshot.
func settle(t *testing.T, w *world.World, places int) {
	t.Helper()
	for range 40 {
		spread(t, w, places)
		first, err := w.Snapshot(0)
		must(t, err)
		same := true
		for p := range places {
			at, err := w.Snapshot(p)
			must(t, err)
			same = same && slices.Equal(at, first)
		}
		if same {
			return
		}
	}
	t.Fatal("40 rounds were not enough")
}

// tell all keys at a place, by a session that has no transaction.
func tell(t *testing.T, w *world.World, s, p int, keys []string) []api.Value {
	t.Helper()
	must(t, w.Begin(s, p))
	var l []api.Value
	for _, key := range keys {
		v, err := w.Read(s, key)
		must(t, err)
		l = append(l, v)
	}
	must(t, w.Commit(s))
	return l
}

func TestP84AllTellTheSame(t *testing.T) {
	seed := int64(100)
	for places := 1; places <= 4; places++ {
		for shards := 1; shards <= 3; shards++ {
			for range 4 {
				seed++
				w := play(t, seed, places, shards, 1000)
				settle(t, w.World, places)
				for s := range api.MaxSessions {
					_ = w.Abort(s)
				}
				var want []api.Value
				for _, key := range w.keys {
					v, err := values.Of(key, w.commits)
					must(t, err)
					want = append(want, v)
				}
				for p := range places {
					// Pruned or not: every other place is, of all that it has.
					if p%2 == 0 {
						must(t, w.Prune(p))
					}
					if got := tell(t, w.World, p, p, w.keys); !slices.EqualFunc(got, want, sameValue) {
						t.Fatalf("seed %d, place %d of %d tells %+v, want %+v", seed, p, places, got, want)
					}
				}
			}
		}
	}
}

// TestP84ByName: three places that do not hear each other write on the same keys.
func TestP84ByName(t *testing.T) {
	w := newWorld(t, 3, 2)
	do(t, w, 0, 0, add("s", "a"), register("r", "0"), counter("n", 1))
	do(t, w, 1, 1, add("s", "a"), register("r", "1"), counter("n", 2))
	for w.Flying()[0].From == 0 {
		must(t, w.Drop(0))
	}
	must(t, w.Beat(1))
	deliver(t, w)
	wantSnapshot(t, "place 2 has heard of place 1 alone", w, 2, 0, 1, 0)
	do(t, w, 2, 2, remove("s", "a"), add("s", "b"), register("r", "2"), counter("n", 4))
	for len(w.Flying()) > 0 {
		must(t, w.Drop(0))
	}
	keys := []string{"s", "r", "n", "z"}
	want := []api.Value{isSet("a", "b"), isRegister("2"), isCounter(7), {}}
	settle(t, w, 3)
	for p := range 3 {
		wantSnapshot(t, "settled", w, p, 1, 1, 1)
		if got := tell(t, w, 4, p, keys); !slices.EqualFunc(got, want, sameValue) {
			t.Errorf("place %d tells %+v, want %+v", p, got, want)
		}
	}
}

// TestP2SameCallsSameAnswers: nothing else has a say.
func TestP2SameCallsSameAnswers(t *testing.T) {
	for seed := range int64(5) {
		a, b := play(t, seed, 3, 3, 300), play(t, seed, 3, 3, 300)
		if fmt.Sprint(a.Events(), a.Flying()) != fmt.Sprint(b.Events(), b.Flying()) {
			t.Errorf("seed %d: two plays tell two things", seed)
		}
	}
}
