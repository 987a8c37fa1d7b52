package world

import (
	"slices"
	"testing"

	"causeway/api"
)

// No transaction ever reads at what is pruned, so that only the places
// themselves can tell how far they are.

func wantPruned(t *testing.T, name string, w *World, p int, kept, gone []int) {
	t.Helper()
	if v, err := w.places[p].Read("n", kept); err != nil {
		t.Errorf("%s: place %d at %v: %v, %v", name, p, kept, v, err)
	}
	if v, err := w.places[p].Read("n", gone); gone != nil && err != api.ErrOld {
		t.Errorf("%s: place %d at %v: %v, %v, want ErrOld", name, p, gone, v, err)
	}
}

func must(t *testing.T, errs ...error) {
	t.Helper()
	for i, err := range errs {
		if err != nil {
			t.Fatalf("call %d: %v", i, err)
		}
	}
}

func add(t *testing.T, w *World, s, p int) {
	t.Helper()
	must(t, w.Begin(s, p), w.Write(s, api.Op{Key: "n", Kind: api.Counter, N: 1}), w.Commit(s))
}

func deliver(t *testing.T, w *World) {
	t.Helper()
	for len(w.Flying()) > 0 {
		must(t, w.Deliver(0))
	}
}

func TestP82PruneIsAtLeastOfAll(t *testing.T) {
	w, err := New(3, 1)
	must(t, err)
	add(t, w, 0, 0)
	add(t, w, 0, 0)
	must(t, w.Prune(0))
	wantPruned(t, "nobody else has heard of it", w, 0, []int{0, 0, 0}, nil)
	// Place 1 hears both, place 2 the first one.
	must(t, w.Drop(3))
	deliver(t, w)
	must(t, w.Prune(0), w.Prune(1))
	wantPruned(t, "place 2 has heard of the first one", w, 0, []int{1, 0, 0}, []int{0, 0, 0})
	wantPruned(t, "place 2 has heard of the first one", w, 1, []int{1, 0, 0}, []int{0, 0, 0})
	wantPruned(t, "it was not asked", w, 2, []int{0, 0, 0}, nil)
	must(t, w.Prune(2))
	wantPruned(t, "asked", w, 2, []int{1, 0, 0}, []int{0, 0, 0})
	add(t, w, 1, 1)
	must(t, w.Again(0))
	deliver(t, w)
	must(t, w.Prune(2))
	wantPruned(t, "all has come", w, 2, []int{2, 1, 0}, []int{1, 1, 0})
	wantPruned(t, "all has come", w, 2, []int{2, 1, 0}, []int{2, 0, 0})
}

func TestP82PruneIsAtLeastOfWhatIsOpen(t *testing.T) {
	w, err := New(2, 1)
	must(t, err)
	must(t, w.Begin(7, 1))
	add(t, w, 0, 0)
	deliver(t, w)
	must(t, w.Begin(5, 0), w.Begin(6, 1))
	add(t, w, 0, 0)
	deliver(t, w)
	for p := range 2 {
		must(t, w.Prune(p))
		wantPruned(t, "open at 0.0", w, p, []int{0, 0}, nil)
	}
	must(t, w.Abort(7))
	for p := range 2 {
		must(t, w.Prune(p))
		wantPruned(t, "open at 1.0", w, p, []int{1, 0}, []int{0, 0})
	}
	must(t, w.Commit(5), w.Prune(0))
	wantPruned(t, "one is still open", w, 0, []int{1, 0}, []int{0, 0})
	must(t, w.Write(6, api.Op{Key: "n", Kind: api.Counter, N: 1}), w.Commit(6))
	must(t, w.Prune(0))
	wantPruned(t, "none is open", w, 0, []int{2, 0}, []int{1, 0})
	if at := w.places[1].Snapshot(); !slices.Equal(at, []int{2, 1}) {
		t.Errorf("snapshot %v", at)
	}
}

// TestP83KeepsNoMore: what is not told any more is not kept.
func TestP83KeepsNoMore(t *testing.T) {
	w, err := New(1, 1)
	must(t, err)
	read := func(s, want int) {
		t.Helper()
		if _, err := w.Read(s, "n"); err != nil || len(w.clients[s].event.Reads) != want {
			t.Errorf("%v: %d reads are kept, want %d", err, len(w.clients[s].event.Reads), want)
		}
	}
	must(t, w.Begin(0, 0))
	read(0, 1)
	read(0, 2)
	must(t, w.Write(0, api.Op{Key: "n", Kind: api.Counter}))
	read(0, 2)
	must(t, w.Abort(0))
	if c := w.clients[0]; len(c.event.At) != 0 || len(c.event.Reads) != 0 {
		t.Errorf("aborted: %+v", c.event)
	}
	for range api.MaxEvents + 1 {
		must(t, w.Begin(0, 0), w.Commit(0))
	}
	if c := w.clients[0]; len(c.event.At) != 0 {
		t.Errorf("committed: %+v", c.event)
	}
	must(t, w.Begin(0, 0))
	read(0, 0)
	if len(w.events) != api.MaxEvents {
		t.Errorf("%d events are kept", len(w.events))
	}
}
