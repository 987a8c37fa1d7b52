package judge_test

import (
	"fmt"
	"math"
	"reflect"
	"slices"
	"testing"
	"time"

	"causeway/api"
	"causeway/judge"
	"causeway/world"
)

// TestP4HandedOver: what is handed over is only read, also behind a list's length.
func TestP4HandedOver(t *testing.T) {
	behind := func(l []int) []int { return append(slices.Clone(l), -7, -7)[:len(l)] }
	make5 := func() []world.Event {
		l := append(good(), world.Event{Place: -7}, world.Event{Place: -7})
		for i := range l {
			l[i].At, l[i].C.When = behind(l[i].At), behind(l[i].C.When)
			l[i].Reads = append(slices.Clone(l[i].Reads), read("NO", isCounter(7)))[:len(l[i].Reads)]
			l[i].C.Ops = append(slices.Clone(l[i].C.Ops), api.Op{At: -7})[:len(l[i].C.Ops)]
		}
		return l
	}
	l := make5()
	wantCheck(t, "good", 2, l[:5], -1, nil)
	wantCuts(t, "good", l[:5], []int{0, 1}, []int{2, 3}, []int{4})
	if is, err := judge.Seen(l[:5], 5, 0); is || err != api.ErrBound {
		t.Errorf("Seen behind the list = %v, %v", is, err)
	}
	judge.Seen(l[:5], 0, 1)
	want := make5()
	if !reflect.DeepEqual(l, want) {
		t.Errorf("changed: %+v, want %+v", l, want)
	}
	for i := range l {
		if got := l[i].At[:cap(l[i].At)]; !slices.Equal(got[len(got)-2:], want[i].At[:cap(want[i].At)][len(got)-2:]) {
			t.Errorf("event %d: behind At: %v", i, got)
		}
	}
}

// TestP4Answers: what is answered is new memory, of which no two lists share any.
func TestP4Answers(t *testing.T) {
	l := good()
	want := [][]int{{0, 1}, {2, 3}, {4}}
	got, err := judge.Cuts(l)
	if err != nil {
		t.Fatal(err)
	}
	for i := range got {
		if !slices.Equal(got[i], want[i]) {
			t.Errorf("round %d is %v", i, got[i])
		}
		_ = append(got[i], 77, 77, 77)
		for j := range got[i] {
			got[i][j] = 77
		}
	}
	wantCuts(t, "another time", l, want...)
	wantCheck(t, "another time", 2, l, -1, nil)
	// A fault is new, too.
	l[0].Place = 5
	err = judge.Check(2, l)
	if f, ok := err.(*api.Fault); ok {
		f.At, f.Err = 77, nil
	}
	wantCheck(t, "another time", 2, l, 0, api.ErrShape)
}

// TestP2SameAnswers: the same list, the same answers, whatever was asked ahead.
func TestP2SameAnswers(t *testing.T) {
	l := play(t, 5, 3, 2, 500).Events()
	ask := func(l []world.Event) string {
		cuts, err := judge.Cuts(l)
		return fmt.Sprint(judge.Check(3, l), cuts, err)
	}
	want := ask(l)
	for range 20 {
		_ = ask(good())
		if got := ask(l); got != want {
			t.Fatalf("%s, want %s", got, want)
		}
	}
}

// TestP1Anything: whatever is given, a call ends and does not panic.
func TestP1Anything(t *testing.T) {
	numbers := []int{math.MinInt, -1, 0, 1, 2, 7, math.MaxInt}
	vectors := [][]int{nil, {}, {0}, {1, 2}, {-1, 0}, {math.MaxInt, math.MinInt}, make([]int, 7), make([]int, 1000)}
	opLists := [][]api.Op{nil, {{}}, {{Kind: 3, Remove: true, Dots: []api.Dot{{Place: -1}}}}, make([]api.Op, 1000), {counter(0, "n", 1)}}
	readLists := [][]world.Seen{nil, {{}}, {{Key: "n", V: api.Value{Kind: 9, Set: []string{"x"}}}}}
	var all []world.Event
	for _, at := range vectors {
		for _, when := range vectors {
			for i, ops := range opLists {
				n := numbers[(i+len(at)+len(when))%len(numbers)]
				all = append(all, world.Event{Session: n, Place: n, At: at, Reads: readLists[i%len(readLists)], C: api.Commit{When: when, Place: n, Ops: ops}})
			}
		}
	}
	for i := range all {
		for _, l := range [][]world.Event{all[i:], all[i : i+1], {all[i], all[len(all)-1-i]}} {
			for _, n := range numbers {
				judge.Check(n, l)
				judge.Seen(l, n, 0)
				judge.Seen(l, 0, n)
			}
			judge.Cuts(l)
		}
	}
}

// TestP1LongLists: as many rounds as events do not make it slow.
func TestP1LongLists(t *testing.T) {
	l := make([]world.Event, 2000)
	for i := range l {
		l[i] = did(0, 0, []int{i}, []int{i + 1}, counter(0, "n", 1))
	}
	begun := time.Now()
	wantCheck(t, "a long chain", 1, l, -1, nil)
	if cuts, err := judge.Cuts(l); len(cuts) != len(l) || err != nil {
		t.Errorf("%d rounds, %v", len(cuts), err)
	}
	if took := time.Since(begun); took > 20*time.Second {
		t.Errorf("it took %v", took)
	}
}
