package judge_test

import (
	"fmt"
	"math/rand"
	"slices"
	"testing"

	"causeway/api"
	"causeway/judge"
	"causeway/values"
	"causeway/world"
)

// player of any calls of a world, wrong ones too.
type player struct {
	*world.World
	random *rand.Rand
	places int
	reads  int // that went well
}

func (p *player) op() api.Op {
	o := api.Op{Kind: p.random.Intn(3) + 1, Text: fmt.Sprint("t", p.random.Intn(4)), N: p.random.Intn(9) - 4, Remove: p.random.Intn(2) == 0}
	o.Key = fmt.Sprint([]string{"r", "n", "s"}[o.Kind-1], p.random.Intn(2))
	if p.random.Intn(5) == 0 {
		o.Key = "mixed"
	}
	return o
}

func (p *player) step() {
	s, here := p.random.Intn(api.MaxSessions), p.random.Intn(p.places)
	flying := p.random.Intn(len(p.Flying()) + 1)
	switch n := p.random.Intn(40); {
	case n < 7:
		_ = p.Begin(s, here)
	case n < 14:
		if _, err := p.Read(s, p.op().Key); err == nil {
			p.reads++
		}
	case n < 18:
		_ = p.Write(s, p.op())
	case n < 22:
		_ = p.Commit(s)
	case n == 22:
		_ = p.Abort(s)
	case n == 23:
		_ = p.Drop(flying)
	case n == 24:
		_ = p.Twice(flying)
	case n < 27:
		_ = p.Beat(here)
	case n == 27:
		_ = p.Again(here)
	case n == 28:
		_ = p.Prune(here)
	default:
		_ = p.Deliver(flying)
	}
}

func play(t *testing.T, seed int64, places, shards, steps int) *player {
	t.Helper()
	w, err := world.New(places, shards)
	if err != nil {
		t.Fatal(err)
	}
	p := &player{World: w, random: rand.New(rand.NewSource(seed)), places: places}
	for range steps {
		p.step()
	}
	return p
}

// wantRounds: each event is in one round, behind all that wrote what it has seen, and no later than it must be.
func wantRounds(t *testing.T, l []world.Event) int {
	t.Helper()
	cuts, err := judge.Cuts(l)
	if err != nil {
		t.Fatalf("Cuts = %v", err)
	}
	round := map[int]int{}
	for i, cut := range cuts {
		if len(cut) == 0 || !slices.IsSorted(cut) {
			t.Fatalf("round %d is %v", i, cut)
		}
		for _, n := range cut {
			if _, twice := round[n]; twice || n < 0 || n >= len(l) {
				t.Fatalf("%d is none, or in two rounds", n)
			}
			round[n] = i
		}
	}
	if len(round) != len(l) {
		t.Fatalf("%d of %d events are in rounds", len(round), len(l))
	}
	for b := range l {
		behind := 0
		for a := range l {
			is, err := judge.Seen(l, a, b)
			if err != nil {
				t.Fatalf("Seen(%d, %d) = %v", a, b, err)
			}
			if is && len(l[a].C.Ops) > 0 {
				behind = max(behind, round[a]+1)
			}
		}
		if round[b] != behind {
			t.Fatalf("event %d is in round %d, want %d", b, round[b], behind)
		}
	}
	return len(cuts)
}

func TestP92WorldsAreCausal(t *testing.T) {
	seed, reads, most := int64(0), 0, 0
	for places := 1; places <= api.MaxPlaces; places++ {
		for _, shards := range []int{1, 2, 6} {
			for range 2 {
				seed++
				p := play(t, seed, places, shards, 1500)
				l := p.Events()
				wantCheck(t, fmt.Sprint("seed ", seed), places, l, -1, nil)
				most = max(most, wantRounds(t, l))
				reads += p.reads
			}
		}
	}
	if reads < 1000 || most < 10 {
		t.Errorf("%d reads and at most %d rounds tell too little", reads, most)
	}
}

// TestP92FirstEvents: of a world that did more than it tells, what it tells is causal.
func TestP92FirstEvents(t *testing.T) {
	for seed := range int64(3) {
		p := play(t, 50+seed, 3, 2, 15000)
		l := p.Events()
		if len(l) != api.MaxEvents {
			t.Fatalf("%d events", len(l))
		}
		wantCheck(t, "as many as there may be", 3, l, -1, nil)
		wantRounds(t, l)
		wantCheck(t, "some", 3, l[:100], -1, nil)
		wantRounds(t, l[:100])
	}
}

// TestP92Settled: where all has come, each place reads the same, and that is causal, too.
func TestP92Settled(t *testing.T) {
	p := play(t, 99, 3, 2, 600)
	for s := range api.MaxSessions {
		_ = p.Abort(s)
	}
	for range 3 {
		for here := range 3 {
			_, _ = p.Again(here), p.Beat(here)
			for p.Deliver(0) == nil {
			}
		}
	}
	for here := range 3 {
		if err := p.Begin(here, here); err != nil {
			t.Fatal(err)
		}
		for _, key := range []string{"r0", "r1", "n0", "n1", "s0", "s1", "mixed", "none"} {
			if _, err := p.Read(here, key); err != nil {
				t.Fatal(err)
			}
		}
		if err := p.Commit(here); err != nil {
			t.Fatal(err)
		}
	}
	l := p.Events()
	wantCheck(t, "settled", 3, l, -1, nil)
	last := l[len(l)-1]
	last.Reads[0].V.Text += "x"
	wantCheck(t, "one read is false", 3, l, len(l)-1, api.ErrSum)
}

// inside: the second telling's own vector.Within.
func inside(a, b []int) bool {
	for i := range a {
		if a[i] > b[i] {
			return false
		}
	}
	return true
}

// readsWrong: does a read tell something else than what stands in the list?
func readsWrong(l []world.Event, n int) bool {
	for _, r := range l[n].Reads {
		var seen []api.Commit
		for _, e := range l {
			if len(e.C.Ops) > 0 && inside(e.C.When, l[n].At) {
				seen = append(seen, e.C)
			}
		}
		v, err := values.Of(r.Key, seen)
		if err != nil || v.Kind != r.V.Kind || v.Text != r.V.Text || v.N != r.V.N || !slices.Equal(v.Set, r.V.Set) {
			return true
		}
	}
	return false
}

// lastOf a session ahead of number n; -1: there is none.
func lastOf(l []world.Event, n int) int {
	for i := n - 1; i >= 0; i-- {
		if l[i].Session == l[n].Session {
			return i
		}
	}
	return -1
}

// toldAgain: Check's answer for whole events, a second time, from back to front.
func toldAgain(l []world.Event) (at int, err error) {
	at = -1
	for n := len(l) - 1; n >= 0; n-- {
		last := lastOf(l, n)
		switch {
		case !inside(l[n].At, l[n].C.When):
			at, err = n, api.ErrBound
		case last >= 0 && !inside(l[last].C.When, l[n].At):
			at, err = n, api.ErrOld
		case readsWrong(l, n):
			at, err = n, api.ErrSum
		}
	}
	return at, err
}

// TestP90AnyChange: what a world told, with some changes: Check answers what the second telling does.
func TestP90AnyChange(t *testing.T) {
	told := map[error]int{}
	for seed := range int64(40) {
		p := play(t, 1000+seed, 3, 2, 400)
		random := p.random
		for range 25 {
			l := p.Events()
			for range 1 + random.Intn(2) {
				change(random, l)
			}
			at, want := toldAgain(l)
			told[want]++
			wantCheck(t, fmt.Sprint("seed ", seed), 3, l, at, want)
		}
	}
	for _, err := range []error{nil, api.ErrBound, api.ErrOld, api.ErrSum} {
		if told[err] < 20 {
			t.Errorf("%v: told %d times", err, told[err])
		}
	}
}

// change one thing of some event, so that each event stays whole.
func change(random *rand.Rand, l []world.Event) {
	if len(l) == 0 {
		return
	}
	a, b, p := random.Intn(len(l)), random.Intn(len(l)), random.Intn(3)
	switch random.Intn(7) {
	case 0:
		l[a], l[b] = l[b], l[a]
	case 1:
		l[a].Session = l[b].Session
	case 2:
		l[a].At[p] = max(l[a].At[p]-1, 0)
	case 3:
		l[a].At[p]++
	case 4:
		l[a].C.When[p]++
	case 5:
		l[a].C = l[b].C
	case 6:
		if len(l[a].Reads) > 0 && len(l[b].Reads) > 0 {
			l[a].Reads[0].V = l[b].Reads[0].V
		}
	}
}

// cutsAgain: rounds a second time, each one asked of all events anew; nil: held.
func cutsAgain(l []world.Event) [][]int {
	out, in := [][]int{}, map[int]int{}
	for len(in) < len(l) {
		var round []int
		for b := range l {
			_, free := in[b]
			free = !free
			for a := range l {
				if _, done := in[a]; !done && len(l[a].C.Ops) > 0 && inside(l[a].C.When, l[b].At) {
					free = false
				}
			}
			if free {
				round = append(round, b)
			}
		}
		if len(round) == 0 {
			return nil
		}
		for _, n := range round {
			in[n] = 1
		}
		out = append(out, round)
	}
	return out
}

// TestP91AnyEvents: any vectors, causal or not: rounds are those of the second telling.
func TestP91AnyEvents(t *testing.T) {
	random := rand.New(rand.NewSource(7))
	held, had, many := 0, 0, 0
	for range 12000 {
		places := 1 + random.Intn(3)
		l := make([]world.Event, random.Intn(9))
		for i := range l {
			l[i] = anyEvent(random, places)
		}
		want := cutsAgain(l)
		if want == nil {
			held++
			wantNoCuts(t, fmt.Sprint(l), l, -1, api.ErrHeld)
			continue
		}
		had++
		if len(want) > 2 {
			many++
		}
		wantCuts(t, fmt.Sprint(l), l, want...)
	}
	if held < 500 || had < 500 || many < 200 {
		t.Errorf("held %d, had rounds %d, more than two of them %d", held, had, many)
	}
}

func anyEvent(random *rand.Rand, places int) world.Event {
	at, when := make([]int, places), make([]int, places)
	for i := range at {
		at[i] = random.Intn(4)
		when[i] = at[i] + random.Intn(3) - random.Intn(2)*random.Intn(2)
		when[i] = max(when[i], 0)
	}
	e := did(random.Intn(3), random.Intn(places), at, when)
	if random.Intn(2) == 0 {
		e.C.Ops = []api.Op{counter(0, "n", 1)}
	}
	return e
}
