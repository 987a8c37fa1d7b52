package place_test

import (
	"fmt"
	"math/rand"
	"slices"
	"testing"

	"causeway/api"
	"causeway/place"
	"causeway/values"
	"causeway/vector"
	"causeway/wire"
)

// town: places, what flies between them, and all that was ever committed.
type town struct {
	t       *testing.T
	random  *rand.Rand
	keys    []string
	places  []*place.Place
	bases   [][]int
	flying  []wire.Message
	commits []api.Commit
	told    []string
}

func newTown(t *testing.T, seed int64, places, shards int) *town {
	w := &town{t: t, random: rand.New(rand.NewSource(seed))}
	for id := range places {
		w.places = append(w.places, newPlace(t, id, places, shards))
		w.bases = append(w.bases, make([]int, places))
	}
	for _, kind := range []string{"r", "n", "s", "m"} {
		for i := range 3 {
			w.keys = append(w.keys, fmt.Sprint(kind, i))
		}
	}
	return w
}

// op of a kind that its key tells; of keys that begin with m: of any kind.
func (w *town) op(p *place.Place, at []int) api.Op {
	key := w.keys[w.random.Intn(len(w.keys))]
	kind := key[0]
	if kind == 'm' {
		kind = "rns"[w.random.Intn(3)]
	}
	text := fmt.Sprint("t", w.random.Intn(4))
	switch kind {
	case 'r':
		return register(key, text)
	case 'n':
		return counter(key, w.random.Intn(9)-4)
	}
	if w.random.Intn(2) == 0 {
		return add(key, text)
	}
	dots, err := p.Dots(key, text, at)
	if err != nil && err != api.ErrOld {
		w.t.Fatal(err)
	}
	return remove(key, text, dots[:min(len(dots), api.MaxDots)]...)
}

// within the snapshot: some vector, mostly the snapshot itself.
func (w *town) within(p *place.Place) []int {
	at := p.Snapshot()
	if w.random.Intn(3) == 0 {
		for i := range at {
			at[i] -= w.random.Intn(min(at[i], 3) + 1)
		}
	}
	return at
}

func (w *town) commit(p *place.Place) {
	at := w.within(p)
	var ops []api.Op
	for range 1 + w.random.Intn(4) {
		ops = append(ops, w.op(p, at))
	}
	c, l := mustCommit(w.t, p, at, ops...)
	w.commits = append(w.commits, c)
	w.flying = append(w.flying, l...)
}

func (w *town) deliver(at int) {
	m := w.flying[at]
	w.flying = slices.Delete(w.flying, at, at+1)
	l, err := w.places[m.To].Hear(m)
	if err != nil && err != api.ErrFull {
		w.t.Fatalf("Hear(%+v) = %v", m, err)
	}
	w.flying = append(w.flying, l...)
}

func (w *town) prune(id int) {
	at := w.within(w.places[id])
	mustPrune(w.t, w.places[id], at...)
	base, err := vector.Most(w.bases[id], at)
	if err != nil {
		w.t.Fatal(err)
	}
	w.bases[id] = base
}

func (w *town) step() {
	id := w.random.Intn(len(w.places))
	p := w.places[id]
	n := w.random.Intn(20)
	switch {
	case n < 3:
		w.commit(p)
	case n == 3:
		w.flying = append(w.flying, p.Beat()...)
	case n == 4 && len(w.flying) < 100:
		w.flying = append(w.flying, p.Again()...)
	case n == 5 && w.random.Intn(3) == 0:
		w.prune(id)
	case len(w.flying) == 0:
	case n == 6:
		at := w.random.Intn(len(w.flying))
		w.flying = slices.Delete(w.flying, at, at+1)
	case n == 7:
		w.flying = append(w.flying, w.flying[w.random.Intn(len(w.flying))])
	default:
		w.deliver(w.random.Intn(len(w.flying)))
	}
}

// seen are all commits within a vector, whole, wherever they were made.
func (w *town) seen(at []int) []api.Commit {
	var l []api.Commit
	for _, c := range w.commits {
		if in, err := vector.Within(c.When, at); err == nil && in {
			l = append(l, c)
		}
	}
	return l
}

// check what a place tells at a vector against what all commits within it make.
func (w *town) check(id int, at []int) {
	w.t.Helper()
	p := w.places[id]
	if in, err := vector.Within(w.bases[id], at); err != nil || !in {
		if _, err := p.Read(w.keys[0], at); err != api.ErrOld {
			w.t.Errorf("place %d: base %v, at %v: %v", id, w.bases[id], at, err)
		}
		return
	}
	l := w.seen(at)
	for _, key := range w.keys {
		want, err := values.Of(key, l)
		if err != nil {
			w.t.Fatal(err)
		}
		got, err := p.Read(key, at)
		if err != nil || !sameValue(got, want) {
			w.t.Fatalf("place %d: %s at %v is %+v, %v, want %+v", id, key, at, got, err, want)
		}
		dots, err := values.Dots(key, "t1", l)
		if err != nil {
			w.t.Fatal(err)
		}
		if got, err := p.Dots(key, "t1", at); err != nil || !slices.Equal(got, dots) {
			w.t.Fatalf("place %d: dots of %s at %v: %v, %v, want %v", id, key, at, got, err, dots)
		}
		w.told = append(w.told, fmt.Sprint(id, at, key, got, dots))
	}
}

// settle: all that was ever sent comes, and every place beats.
func (w *town) settle() {
	for range 20 {
		for _, p := range w.places {
			w.flying = append(w.flying, p.Again()...)
			w.flying = append(w.flying, p.Beat()...)
			for len(w.flying) > 0 {
				w.deliver(0)
			}
		}
	}
}

func play(t *testing.T, seed int64, places, shards, steps int) *town {
	w := newTown(t, seed, places, shards)
	for range steps {
		w.step()
		id := w.random.Intn(places)
		if w.random.Intn(4) == 0 {
			w.check(id, w.within(w.places[id]))
		}
		w.check(id, w.places[id].Snapshot())
	}
	return w
}

func TestP64WholeWithAllThatWasSeen(t *testing.T) {
	seed := int64(0)
	for places := 1; places <= 4; places++ {
		for shards := 1; shards <= 3; shards++ {
			for range 4 {
				seed++
				w := play(t, seed, places, shards, 150)
				w.settle()
				all := make([]int, places)
				for id, p := range w.places {
					all[id] = p.Clock()
				}
				for id, p := range w.places {
					wantSnapshot(t, fmt.Sprint("settled, seed ", seed, ", place ", id), p, all...)
					w.check(id, all)
					wantMessages(t, "all is acked", p.Again())
				}
			}
		}
	}
}

// TestP64PartsWait: of a transaction of two shards, and of what came of it, nothing is seen until all has come.
func TestP64PartsWait(t *testing.T) {
	keys := keysOf(t, 2)
	a, b, c := newPlace(t, 0, 3, 2), newPlace(t, 1, 3, 2), newPlace(t, 2, 3, 2)
	_, l := mustCommit(t, a, []int{0, 0, 0}, counter(keys[0], 1), counter(keys[1], 1))
	mustHear(t, b, l[0], 1)
	wantCount(t, "one part", b, keys[0], 0)
	mustHear(t, b, l[1], 1)
	wantCount(t, "both parts", b, keys[0], 1)
	wantCount(t, "both parts", b, keys[1], 1)
	_, came := mustCommit(t, b, b.Snapshot(), counter(keys[0], 10), counter(keys[1], 10))
	// To place 2 it comes ahead of what it had seen.
	mustHear(t, c, came[2], 1)
	mustHear(t, c, came[3], 1)
	wantSnapshot(t, "ahead of what it had seen", c, 0, 1, 0)
	mustHear(t, c, l[3], 1)
	for _, key := range keys {
		wantCount(t, "ahead of what it had seen", c, key, 0)
	}
	mustHear(t, c, l[2], 1)
	for _, key := range keys {
		wantCount(t, "all has come", c, key, 11)
	}
}

// TestP2SameCallsSameAnswers: nothing else has a say, such as the order of a map.
func TestP2SameCallsSameAnswers(t *testing.T) {
	for seed := range int64(5) {
		a, b := play(t, seed, 3, 3, 100), play(t, seed, 3, 3, 100)
		if !slices.Equal(a.told, b.told) || !slices.EqualFunc(a.flying, b.flying, same) || !slices.EqualFunc(a.commits, b.commits, sameCommit) {
			t.Errorf("seed %d: two plays tell two things", seed)
		}
	}
}
