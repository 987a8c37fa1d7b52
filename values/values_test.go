package values_test

import (
	"errors"
	"fmt"
	"math"
	"math/rand"
	"reflect"
	"slices"
	"strings"
	"testing"

	"causeway/api"
	"causeway/plain"
	"causeway/values"
	"causeway/vector"
)

func register(at int, key, text string) api.Op {
	return api.Op{At: at, Key: key, Kind: api.Register, Text: text}
}

func counter(at int, key string, n int) api.Op {
	return api.Op{At: at, Key: key, Kind: api.Counter, N: n}
}

func add(at int, key, text string) api.Op {
	return api.Op{At: at, Key: key, Kind: api.Set, Text: text}
}

func remove(at int, key, text string, dots ...api.Dot) api.Op {
	return api.Op{At: at, Key: key, Kind: api.Set, Text: text, Remove: true, Dots: dots}
}

func commit(place int, when []int, ops ...api.Op) api.Commit {
	return api.Commit{When: when, Place: place, Ops: ops}
}

// same: a nil list and an empty one are one thing.
func same(a, b api.Value) bool {
	return a.Kind == b.Kind && a.Text == b.Text && a.N == b.N && slices.Equal(a.Set, b.Set)
}

func wantOf(t *testing.T, name, key string, l []api.Commit, want api.Value) {
	t.Helper()
	if got, err := values.Of(key, l); err != nil || !same(got, want) {
		t.Errorf("%s: Of(%q) = %+v, %v, want %+v", name, key, got, err, want)
	}
}

func wantDots(t *testing.T, name, key, text string, l []api.Commit, want ...api.Dot) {
	t.Helper()
	if got, err := values.Dots(key, text, l); err != nil || !slices.Equal(got, want) {
		t.Errorf("%s: Dots(%q, %q) = %v, %v, want %v", name, key, text, got, err, want)
	}
}

func TestP20Names(t *testing.T) {
	long := strings.Repeat("k", api.MaxName)
	for _, name := range []string{"a", "z", "0", "9", "-", "--", "a-9", "x1-y2", long} {
		if err := values.Check(register(0, name, ""), 1); err != nil {
			t.Errorf("Check of key %q = %v", name, err)
		}
		if err := values.CheckName(name); err != nil {
			t.Errorf("CheckName(%q) = %v", name, err)
		}
		if _, err := values.Of(name, nil); err != nil {
			t.Errorf("Of(%q, nil) = %v", name, err)
		}
		if _, err := values.Dots(name, "", nil); err != nil {
			t.Errorf("Dots(%q) = %v", name, err)
		}
	}
	wrong := []string{"", "A", "kA", "_", "a b", " a", "a ", ".", "/", ":", "@", "[", "`", "{", "a\x00", "ä", "\xff", "٣", long + "k", strings.Repeat("k", 100000)}
	for _, name := range wrong {
		if err := values.Check(register(0, name, ""), 1); err != api.ErrName {
			t.Errorf("Check of key %.20q = %v, want ErrName", name, err)
		}
		if err := values.CheckName(name); err != api.ErrName {
			t.Errorf("CheckName(%.20q) = %v, want ErrName", name, err)
		}
		if v, err := values.Of(name, nil); err != api.ErrName || !same(v, api.Value{}) {
			t.Errorf("Of(%.20q, nil) = %v, %v, want ErrName", name, v, err)
		}
		if d, err := values.Dots(name, "", nil); err != api.ErrName || len(d) != 0 {
			t.Errorf("Dots(%.20q) = %v, %v, want ErrName", name, d, err)
		}
	}
}

func TestP20NamesByByte(t *testing.T) {
	const good = "abcdefghijklmnopqrstuvwxyz0123456789-"
	for b := range 256 {
		var want error
		if !strings.Contains(good, string([]byte{byte(b)})) {
			want = api.ErrName
		}
		if err := values.Check(register(0, "k"+string([]byte{byte(b)}), ""), 1); err != want {
			t.Errorf("byte %d in a name: %v, want %v", b, err, want)
		}
	}
}

func TestP20CheckTakes(t *testing.T) {
	full := slices.Repeat([]api.Dot{{Place: 5, Time: api.MaxTime, At: api.MaxOps - 1}}, api.MaxDots)
	text := strings.Repeat("\xff", api.MaxText)
	for i, c := range []struct {
		o      api.Op
		places int
	}{
		{register(0, "k", ""), 1},
		{register(api.MaxOps-1, "k", text), api.MaxPlaces},
		{counter(0, "k", 0), 1},
		{counter(3, "k", api.MaxTime), 3},
		{counter(3, "k", -api.MaxTime), 3},
		{add(0, "k", ""), 1},
		{add(0, "k", text), 1},
		{remove(0, "k", "x"), 1},
		{remove(0, "k", ""), 1},
		{remove(0, "k", text, full...), api.MaxPlaces},
		{remove(0, "k", "x", api.Dot{Time: 1}, api.Dot{Time: 1}), 1},
		{api.Op{Key: "k", Kind: api.Register, Dots: []api.Dot{}}, 1},
		{api.Op{Key: "k", Kind: api.Counter, Dots: []api.Dot{}}, 1},
		{api.Op{Key: "k", Kind: api.Set, Dots: []api.Dot{}}, 1},
	} {
		if err := values.Check(c.o, c.places); err != nil {
			t.Errorf("%d: Check(%+v, %d) = %v", i, c.o, c.places, err)
		}
	}
}

func TestP20CheckRefuses(t *testing.T) {
	dot := []api.Dot{{Time: 1}}
	op := func(change func(*api.Op)) api.Op {
		o := remove(0, "k", "x", dot...)
		change(&o)
		return o
	}
	for i, c := range []struct {
		o      api.Op
		places int
		want   error
	}{
		{add(0, "k", ""), 0, api.ErrBound},
		{add(0, "k", ""), -1, api.ErrBound},
		{add(0, "k", ""), api.MaxPlaces + 1, api.ErrBound},
		{add(0, "k", ""), math.MinInt, api.ErrBound},
		{add(0, "k", ""), math.MaxInt, api.ErrBound},
		{add(-1, "k", ""), 1, api.ErrBound},
		{add(api.MaxOps, "k", ""), 1, api.ErrBound},
		{add(math.MinInt, "k", ""), 1, api.ErrBound},
		{api.Op{}, 1, api.ErrName},
		{api.Op{Key: "k"}, 1, api.ErrKind},
		{api.Op{Key: "k", Kind: -1}, 1, api.ErrKind},
		{api.Op{Key: "k", Kind: 4}, 1, api.ErrKind},
		{api.Op{Key: "k", Kind: math.MaxInt}, 1, api.ErrKind},
		{api.Op{Key: "k", Kind: api.Register, N: -1}, 1, api.ErrShape},
		{api.Op{Key: "k", Kind: api.Register, Remove: true}, 1, api.ErrShape},
		{api.Op{Key: "k", Kind: api.Register, Dots: dot}, 1, api.ErrShape},
		{api.Op{Key: "k", Kind: api.Counter, Text: "x"}, 1, api.ErrShape},
		{api.Op{Key: "k", Kind: api.Counter, Remove: true}, 1, api.ErrShape},
		{api.Op{Key: "k", Kind: api.Counter, Dots: dot}, 1, api.ErrShape},
		{api.Op{Key: "k", Kind: api.Set, N: 1}, 1, api.ErrShape},
		{api.Op{Key: "k", Kind: api.Set, Dots: dot}, 1, api.ErrShape},
		{op(func(o *api.Op) { o.N = 1 }), 1, api.ErrShape},
		{register(0, "k", strings.Repeat("x", api.MaxText+1)), 1, api.ErrBound},
		{add(0, "k", strings.Repeat("x", api.MaxText+1)), 1, api.ErrBound},
		{op(func(o *api.Op) { o.Text = strings.Repeat("x", api.MaxText+1) }), 1, api.ErrBound},
		{add(0, "k", strings.Repeat("ä", api.MaxText/2)+"x"), 1, api.ErrBound},
		{counter(0, "k", api.MaxTime+1), 1, api.ErrBound},
		{counter(0, "k", -api.MaxTime-1), 1, api.ErrBound},
		{counter(0, "k", math.MinInt), 1, api.ErrBound},
		{counter(0, "k", math.MaxInt), 1, api.ErrBound},
		{remove(0, "k", "x", slices.Repeat(dot, api.MaxDots+1)...), 1, api.ErrBound},
	} {
		if err := values.Check(c.o, c.places); err != c.want {
			t.Errorf("%d: Check(%+v, %d) = %v, want %v", i, c.o, c.places, err, c.want)
		}
	}
}

func TestP20CheckRefusesDots(t *testing.T) {
	for _, d := range []api.Dot{
		{Place: -1, Time: 1}, {Place: 3, Time: 1}, {Place: math.MaxInt, Time: 1},
		{Time: 0}, {Time: -1}, {Time: api.MaxTime + 1}, {Time: math.MinInt},
		{Time: 1, At: -1}, {Time: 1, At: api.MaxOps}, {Time: 1, At: math.MaxInt},
	} {
		ok := api.Dot{Place: 2, Time: 1}
		for i, dots := range [][]api.Dot{{d}, {d, ok}, {ok, d}, {ok, ok, d}} {
			if err := values.Check(remove(0, "k", "x", dots...), 3); err != api.ErrBound {
				t.Errorf("%d: Check with dot %v = %v, want ErrBound", i, d, err)
			}
		}
	}
}

func TestP20CheckTellsTheFirstError(t *testing.T) {
	long := strings.Repeat("x", api.MaxText+1)
	for i, c := range []struct {
		o      api.Op
		places int
		want   error
	}{
		{api.Op{Key: "K", Kind: 9, N: 1}, 0, api.ErrBound},
		{api.Op{At: -1, Key: "K", Kind: 9, N: 1}, 1, api.ErrBound},
		{api.Op{Key: "K", Kind: 9, N: 1, Text: long}, 1, api.ErrName},
		{api.Op{Key: "k", Kind: 9, N: 1, Text: long}, 1, api.ErrKind},
		{api.Op{Key: "k", Kind: api.Register, N: 1, Text: long}, 1, api.ErrShape},
		{api.Op{Key: "k", Kind: api.Counter, N: math.MaxInt, Text: long}, 1, api.ErrShape},
		{api.Op{Key: "k", Kind: api.Set, Dots: []api.Dot{{Time: -1}}}, 1, api.ErrShape},
	} {
		if err := values.Check(c.o, c.places); err != c.want {
			t.Errorf("%d: Check(%+v, %d) = %v, want %v", i, c.o, c.places, err, c.want)
		}
	}
}

func manyOps(n int) []api.Op {
	ops := make([]api.Op, n)
	for i := range ops {
		ops[i] = counter(i, "k", 1)
	}
	return ops
}

func TestP20CheckCommit(t *testing.T) {
	ok := add(0, "k", "x")
	for i, c := range []struct {
		c    api.Commit
		at   int
		want error
	}{
		{commit(0, []int{1}, ok), -1, nil},
		{commit(1, []int{0, api.MaxTime}, manyOps(api.MaxOps)...), -1, nil},
		{commit(5, []int{0, 0, 0, 0, 0, 1}, counter(3, "k", 1), counter(11, "k", 1)), -1, nil},
		{commit(1, []int{0, 1}, remove(0, "k", "x", api.Dot{Place: 1, Time: 1})), -1, nil},
		{api.Commit{}, -1, api.ErrShape},
		{commit(0, make([]int, api.MaxPlaces+1), ok), -1, api.ErrShape},
		{commit(9, []int{1, -1}, ok), -1, api.ErrBound},
		{commit(0, []int{api.MaxTime + 1}, ok), -1, api.ErrBound},
		{commit(-1, []int{1}, ok), -1, api.ErrBound},
		{commit(1, []int{1}, ok), -1, api.ErrBound},
		{commit(math.MaxInt, []int{1}, ok), -1, api.ErrBound},
		{commit(math.MinInt, []int{1}, ok), -1, api.ErrBound},
		{commit(1, []int{1, 0}, ok), -1, api.ErrBound},
		{commit(0, []int{1}, manyOps(api.MaxOps+1)...), -1, api.ErrBound},
		{commit(0, []int{0}), -1, api.ErrBound},
		{commit(0, []int{1}), -1, api.ErrShape},
		{api.Commit{When: []int{1}, Ops: []api.Op{}}, -1, api.ErrShape},
		{commit(0, []int{1}, add(0, "", "x")), 0, api.ErrName},
		{commit(0, []int{1}, ok, add(1, "K", "x"), add(2, "", "x")), 1, api.ErrName},
		{commit(0, []int{1}, ok, api.Op{At: 1, Key: "k"}), 1, api.ErrKind},
		{commit(0, []int{1}, ok, api.Op{At: 1, Key: "k", Kind: api.Set, N: 1}), 1, api.ErrShape},
		{commit(0, []int{1}, ok, counter(1, "k", math.MaxInt)), 1, api.ErrBound},
		{commit(0, []int{1}, remove(0, "k", "x", api.Dot{Place: 1, Time: 1})), 0, api.ErrBound},
		{commit(0, []int{1}, ok, ok), 1, api.ErrShape},
		{commit(0, []int{1}, add(4, "k", "x"), add(3, "j", "y")), 1, api.ErrShape},
		{commit(0, []int{1}, ok, add(2, "k", "x"), add(1, "k", "x")), 2, api.ErrShape},
		{commit(0, []int{1}, ok, add(0, "K", "x")), 1, api.ErrName},
		{commit(0, []int{1}, ok, ok, add(1, "K", "x")), 1, api.ErrShape},
	} {
		err := values.CheckCommit(c.c)
		wantError(t, fmt.Sprint("CheckCommit ", i), err, c.at, c.want)
	}
}

// wantError: bare if at is below 0, else within a fault that wraps no other fault.
func wantError(t *testing.T, name string, err error, at int, want error) {
	t.Helper()
	if at < 0 || want == nil {
		if err != want {
			t.Errorf("%s: %v, want %v, bare", name, err, want)
		}
		return
	}
	f, ok := err.(*api.Fault)
	if !ok || f.At != at || f.Err != want {
		_, got := plain.Code(err)
		t.Errorf("%s: %v at %d, want %v at %d", name, err, got, want, at)
	}
}

func TestP21Register(t *testing.T) {
	light := commit(0, []int{2, 0, 0}, register(0, "r", "light"))
	heavy := commit(1, []int{2, 1, 0}, register(0, "r", "heavy"))
	place := commit(2, []int{1, 0, 2}, register(0, "r", "place"))
	twice := commit(0, []int{5, 0, 0}, register(3, "r", "a"), register(4, "q", "b"), register(7, "r", "c"))
	for _, c := range []struct {
		name string
		l    []api.Commit
		text string
	}{
		{"one", []api.Commit{light}, "light"},
		{"by weight", []api.Commit{heavy, light}, "heavy"},
		{"by place where both weigh the same", []api.Commit{place, heavy}, "place"},
		{"all three", []api.Commit{place, light, heavy}, "place"},
		{"by number", []api.Commit{twice}, "c"},
		{"weight ahead of place", []api.Commit{twice, place}, "c"},
		{"by time where weight and place are the same", []api.Commit{
			commit(0, []int{3, 0}, register(0, "r", "late")), commit(0, []int{2, 1}, register(0, "r", "soon"))}, "late"},
		{"time ahead of number", []api.Commit{
			commit(0, []int{3, 0}, register(0, "r", "late")), commit(0, []int{2, 1}, register(9, "r", "soon"))}, "late"},
		{"place ahead of time", []api.Commit{
			commit(0, []int{5, 0}, register(0, "r", "zero")), commit(1, []int{4, 1}, register(0, "r", "one"))}, "one"},
		{"set to nothing", []api.Commit{light, commit(1, []int{2, 1, 0}, register(0, "r", ""))}, ""},
	} {
		wantOf(t, c.name, "r", c.l, api.Value{Kind: api.Register, Text: c.text})
		slices.Reverse(c.l)
		wantOf(t, c.name+", turned around", "r", c.l, api.Value{Kind: api.Register, Text: c.text})
	}
}

func TestP21Counter(t *testing.T) {
	l := []api.Commit{
		commit(0, []int{1, 0}, counter(0, "n", 5), counter(1, "m", 100), counter(2, "n", -7)),
		commit(1, []int{0, 1}, counter(0, "n", api.MaxTime)),
		commit(1, []int{0, 2}, counter(0, "n", api.MaxTime)),
	}
	wantOf(t, "all together", "n", l, api.Value{Kind: api.Counter, N: 2*api.MaxTime - 2})
	wantOf(t, "another key", "m", l, api.Value{Kind: api.Counter, N: 100})
	wantOf(t, "below 0", "n", l[:1], api.Value{Kind: api.Counter, N: -2})
	wantOf(t, "of 0", "z", []api.Commit{commit(0, []int{1}, counter(0, "z", 0))}, api.Value{Kind: api.Counter})
}

func TestP21NoOp(t *testing.T) {
	wantOf(t, "nil", "k", nil, api.Value{})
	wantOf(t, "empty", "k", []api.Commit{}, api.Value{})
	wantOf(t, "none on it", "k", []api.Commit{commit(0, []int{1}, counter(0, "kk", 1))}, api.Value{})
}

func TestP21Kind(t *testing.T) {
	l := []api.Commit{
		commit(0, []int{3, 0}, register(0, "k", "x")),
		commit(1, []int{1, 1}, add(0, "k", "a")),
		commit(1, []int{0, 3}, remove(0, "k", "a", api.Dot{Place: 1, Time: 1})),
		commit(0, []int{1, 0}, counter(5, "k", 4), register(6, "k", "y")),
		commit(0, []int{2, 0}, counter(0, "k", 3)),
	}
	wantOf(t, "the lightest tells the kind", "k", l, api.Value{Kind: api.Counter, N: 7})
	wantOf(t, "a set of those without it", "k", l[:3], api.Value{Kind: api.Set})
	wantOf(t, "a set is first", "k", l[:2], api.Value{Kind: api.Set, Set: []string{"a"}})
	wantDots(t, "of another kind", "k", "a", l)
	wantDots(t, "of its kind", "k", "a", l[:2], api.Dot{Place: 1, Time: 1})
	l = []api.Commit{
		commit(0, []int{1, 0}, register(0, "k", "r")),
		commit(0, []int{2, 0}, add(0, "k", "r")),
	}
	wantOf(t, "adds to a register count nothing", "k", l, api.Value{Kind: api.Register, Text: "r"})
	wantDots(t, "a register has no dots", "k", "r", l)
	l = []api.Commit{
		commit(0, []int{1, 0}, add(0, "j", "a"), register(1, "k", "r")),
		commit(0, []int{2, 0}, counter(0, "j", 1), remove(1, "k", "a", api.Dot{Time: 1})),
	}
	wantOf(t, "an op of another key tells no kind, and takes nothing away", "j", l, api.Value{Kind: api.Set, Set: []string{"a"}})
}

func TestP21Set(t *testing.T) {
	d := func(place, time, at int) api.Dot { return api.Dot{Place: place, Time: time, At: at} }
	two := []api.Commit{
		commit(0, []int{1, 0, 0}, add(0, "s", "a")),
		commit(1, []int{0, 1, 0}, add(0, "s", "a")),
	}
	one := append(slices.Clone(two), commit(2, []int{1, 0, 1}, remove(0, "s", "a", d(0, 1, 0))))
	none := append(slices.Clone(two), commit(2, []int{1, 0, 1}, remove(0, "s", "a", d(0, 1, 0), d(1, 1, 0))))
	for _, c := range []struct {
		name string
		l    []api.Commit
		set  []string
	}{
		{"each once", two, []string{"a"}},
		{"one of two dots goes", one, []string{"a"}},
		{"both go", none, nil},
		{"one by one", append(slices.Clone(one), commit(1, []int{0, 2, 0}, remove(0, "s", "a", d(1, 1, 0)))), nil},
		{"rising", []api.Commit{commit(0, []int{1}, add(0, "s", "b"), add(1, "s", ""), add(2, "s", "B"), add(3, "s", "ab"), add(4, "s", "\xff"), add(5, "s", "b"))}, []string{"", "B", "ab", "b", "\xff"}},
		{"no dots", []api.Commit{commit(0, []int{1}, add(0, "s", "a"), remove(1, "s", "a"))}, []string{"a"}},
		{"a dot of another text", []api.Commit{commit(0, []int{1}, add(0, "s", "a"), add(1, "s", "b"), remove(2, "s", "a", d(0, 1, 1)))}, []string{"a", "b"}},
		{"the text of nothing", []api.Commit{commit(0, []int{1}, add(0, "s", ""), add(1, "s", "b"), remove(2, "s", "", d(0, 1, 0), d(0, 1, 1), d(0, 9, 9)))}, []string{"b"}},
		{"a dot of nobody", []api.Commit{commit(0, []int{1}, add(0, "s", "a"), remove(1, "s", "a", d(0, 2, 0), d(0, 1, 5)))}, []string{"a"}},
		{"its own dot", []api.Commit{commit(0, []int{1}, add(0, "s", "a"), remove(1, "s", "a", d(0, 1, 1)))}, []string{"a"}},
		{"removed ahead of being added", []api.Commit{commit(0, []int{1, 0}, remove(0, "s", "a", d(1, 5, 0))), commit(1, []int{1, 5}, add(0, "s", "a"))}, nil},
		{"added again", []api.Commit{commit(0, []int{1}, add(0, "s", "a"), remove(1, "s", "a", d(0, 1, 0)), add(2, "s", "a"))}, []string{"a"}},
		{"the remove of another key", []api.Commit{commit(0, []int{1}, add(0, "s", "a"), remove(1, "t", "a", d(0, 1, 0)))}, []string{"a"}},
		{"a remove alone", []api.Commit{commit(0, []int{2}, remove(0, "s", "a", d(0, 1, 0)))}, nil},
	} {
		wantOf(t, c.name, "s", c.l, api.Value{Kind: api.Set, Set: c.set})
		slices.Reverse(c.l)
		wantOf(t, c.name+", turned around", "s", c.l, api.Value{Kind: api.Set, Set: c.set})
	}
}

func TestP21TwiceCountsOnce(t *testing.T) {
	whole := commit(0, []int{1, 4}, counter(0, "n", 1), counter(1, "n", 10), counter(2, "m", 100))
	part := commit(0, []int{1, 4}, counter(1, "n", 10))
	wantOf(t, "the whole twice", "n", []api.Commit{whole, whole}, api.Value{Kind: api.Counter, N: 11})
	wantOf(t, "a part again", "n", []api.Commit{whole, part, part}, api.Value{Kind: api.Counter, N: 11})
	wantOf(t, "a part ahead", "n", []api.Commit{part, whole}, api.Value{Kind: api.Counter, N: 11})
	other := commit(0, []int{1, 4}, counter(0, "n", 5), counter(2, "n", 7))
	wantOf(t, "the first one of the list", "n", []api.Commit{whole, other}, api.Value{Kind: api.Counter, N: 11})
	wantOf(t, "the first one of the list, turned around", "n", []api.Commit{other, whole}, api.Value{Kind: api.Counter, N: 22})
	wantOf(t, "on another key ahead", "m", []api.Commit{other, whole}, api.Value{})
	heavy := commit(0, []int{1, 9}, counter(0, "n", 70), register(1, "n", "x"))
	wantOf(t, "of another weight", "n", []api.Commit{heavy, whole}, api.Value{Kind: api.Counter, N: 70})
	wantOf(t, "of another weight, later", "n", []api.Commit{whole, heavy}, api.Value{Kind: api.Counter, N: 11})
	apart := []api.Commit{
		commit(0, []int{1, 1}, counter(0, "n", 1)), commit(1, []int{1, 1}, counter(0, "n", 2)),
		commit(0, []int{2, 1}, counter(0, "n", 4)), commit(0, []int{2, 1}, counter(1, "n", 8)),
	}
	wantOf(t, "told apart by place, time and number", "n", apart, api.Value{Kind: api.Counter, N: 15})
	sets := []api.Commit{
		commit(0, []int{1}, add(0, "s", "a")),
		commit(0, []int{1}, remove(0, "s", "b", api.Dot{Time: 2})),
		commit(0, []int{2}, add(0, "s", "b")),
	}
	wantOf(t, "what does not count takes nothing away", "s", sets, api.Value{Kind: api.Set, Set: []string{"a", "b"}})
	wantDots(t, "what does not count takes no dot away", "s", "b", sets, api.Dot{Time: 2})
}

func TestP21P22Errors(t *testing.T) {
	ok := commit(0, []int{1, 0}, add(0, "k", "x"))
	badOp := commit(0, []int{1, 0}, add(0, "k", "x"), add(1, "k", "x"), add(2, "K", "x"))
	for i, c := range []struct {
		key  string
		l    []api.Commit
		at   int
		want error
	}{
		{"K", []api.Commit{{}}, -1, api.ErrName},
		{"k", []api.Commit{{}}, 0, api.ErrShape},
		{"k", []api.Commit{ok, {}}, 1, api.ErrShape},
		{"k", []api.Commit{ok, ok, commit(0, []int{-1, 0}), {}}, 2, api.ErrBound},
		{"k", []api.Commit{badOp}, 0, api.ErrName},
		{"k", []api.Commit{ok, badOp}, 1, api.ErrName},
		{"k", []api.Commit{ok, ok, ok, commit(0, []int{1, 0}, add(3, "k", "x"), add(3, "k", "x"))}, 3, api.ErrShape},
		{"k", []api.Commit{ok, commit(0, []int{1}, add(0, "k", "x"))}, 1, api.ErrShape},
		{"k", []api.Commit{ok, commit(0, []int{1, 0, 0}, add(0, "k", "x"))}, 1, api.ErrShape},
		{"k", []api.Commit{ok, commit(0, []int{1}, add(0, "K", "x"))}, 1, api.ErrName},
		{"k", []api.Commit{ok, commit(0, []int{1}, add(0, "k", "x")), {}}, 1, api.ErrShape},
		{"k", []api.Commit{ok, commit(0, []int{1}, add(0, "k", "x")), badOp}, 1, api.ErrShape},
		{"other", []api.Commit{badOp}, 0, api.ErrName},
	} {
		v, err := values.Of(c.key, c.l)
		wantError(t, fmt.Sprint("Of ", i), err, c.at, c.want)
		if !same(v, api.Value{}) {
			t.Errorf("Of %d tells %+v with an error", i, v)
		}
		d, err := values.Dots(c.key, "x", c.l)
		wantError(t, fmt.Sprint("Dots ", i), err, c.at, c.want)
		if len(d) != 0 {
			t.Errorf("Dots %d tells %v with an error", i, d)
		}
	}
}

func TestP22Dots(t *testing.T) {
	d := func(place, time, at int) api.Dot { return api.Dot{Place: place, Time: time, At: at} }
	l := []api.Commit{
		commit(1, []int{0, 2, 0}, add(7, "s", "a"), add(11, "s", "a")),
		commit(2, []int{0, 0, 1}, add(0, "s", "a"), add(1, "t", "a"), add(2, "s", "b")),
		commit(0, []int{9, 0, 0}, add(3, "s", "a")),
		commit(1, []int{8, 1, 0}, add(9, "s", "a")),
		commit(0, []int{2, 7, 0}, add(0, "s", "b"), add(5, "s", "")),
	}
	wantDots(t, "by place, time, number", "s", "a", l, d(0, 9, 3), d(1, 1, 9), d(1, 2, 7), d(1, 2, 11), d(2, 1, 0))
	wantDots(t, "another text", "s", "b", l, d(0, 2, 0), d(2, 1, 2))
	wantDots(t, "another key", "t", "a", l, d(2, 1, 1))
	wantDots(t, "the text of nothing", "s", "", l, d(0, 2, 5))
	wantDots(t, "no such text", "s", "c", l)
	wantDots(t, "a text that nobody may add", "s", strings.Repeat("a", api.MaxText+1), l)
	wantDots(t, "no such key", "u", "a", l)
	wantDots(t, "nothing", "s", "a", nil)
	l = append(l, commit(2, []int{0, 0, 2}, remove(0, "s", "a", d(1, 2, 7), d(0, 2, 0), d(2, 1, 0))))
	wantDots(t, "what goes", "s", "a", l, d(0, 9, 3), d(1, 1, 9), d(1, 2, 11))
	wantDots(t, "of its text alone", "s", "b", l, d(0, 2, 0), d(2, 1, 2))
	slices.Reverse(l)
	wantDots(t, "turned around", "s", "a", l, d(0, 9, 3), d(1, 1, 9), d(1, 2, 11))
	wantDots(t, "twice", "s", "a", append(l, l...), d(0, 9, 3), d(1, 1, 9), d(1, 2, 11))
}

// history makes commits of a few places, each with a time of its own there, and
// sets whose removes name dots that may be or may not.
func history(r *rand.Rand, places, n int) []api.Commit {
	clock := make([]int, places)
	var l []api.Commit
	for range n {
		p := r.Intn(places)
		clock[p]++
		when := make([]int, places)
		for i := range when {
			when[i] = r.Intn(clock[i] + 1)
		}
		when[p] = clock[p]
		c := commit(p, when)
		for at := range api.MaxOps {
			if r.Intn(3) == 0 {
				c.Ops = append(c.Ops, randomOp(r, at, places))
			}
		}
		if len(c.Ops) > 0 {
			l = append(l, c)
		}
	}
	return l
}

func randomOp(r *rand.Rand, at, places int) api.Op {
	key := []string{"r", "n", "s", "m"}[r.Intn(4)]
	text := []string{"", "a", "b"}[r.Intn(3)]
	kind := map[string]int{"r": api.Register, "n": api.Counter, "s": api.Set, "m": 1 + r.Intn(3)}[key]
	switch kind {
	case api.Register:
		return register(at, key, fmt.Sprint(text, r.Intn(100)))
	case api.Counter:
		return counter(at, key, r.Intn(100)-50)
	}
	if r.Intn(3) > 0 {
		return add(at, key, text)
	}
	var dots []api.Dot
	for range r.Intn(20) {
		dots = append(dots, api.Dot{Place: r.Intn(places), Time: 1 + r.Intn(5), At: r.Intn(api.MaxOps)})
	}
	return remove(at, key, text, dots...)
}

// intoParts tells each commit in some parts, of which some are told again, in any order.
func intoParts(r *rand.Rand, l []api.Commit) []api.Commit {
	var out []api.Commit
	for _, c := range l {
		groups := make([][]api.Op, 1+r.Intn(3))
		for _, o := range c.Ops {
			g := r.Intn(len(groups))
			groups[g] = append(groups[g], o)
		}
		for _, ops := range groups {
			for range 1 + r.Intn(2) {
				if len(ops) > 0 {
					out = append(out, api.Commit{When: c.When, Place: c.Place, Ops: ops})
				}
			}
		}
	}
	r.Shuffle(len(out), func(i, j int) { out[i], out[j] = out[j], out[i] })
	return out
}

func TestP23AnyOrderAndParts(t *testing.T) {
	r := rand.New(rand.NewSource(23))
	for range 150 {
		l := history(r, 1+r.Intn(api.MaxPlaces), r.Intn(12))
		for _, key := range []string{"r", "n", "s", "m", "none"} {
			v, err := values.Of(key, l)
			if err != nil {
				t.Fatal(err)
			}
			wantOf(t, "told plainly", key, l, plainValue(key, l))
			dots := map[string][]api.Dot{}
			for _, text := range []string{"", "a", "b"} {
				if dots[text], err = values.Dots(key, text, l); err != nil {
					t.Fatal(err)
				}
				if v.Kind == api.Set && (len(dots[text]) > 0) != slices.Contains(v.Set, text) {
					t.Fatalf("%q has dots %v in %v", text, dots[text], v.Set)
				}
			}
			for range 5 {
				parts := intoParts(r, l)
				wantOf(t, "in parts", key, parts, v)
				for text, d := range dots {
					wantDots(t, "in parts", key, text, parts, d...)
				}
			}
		}
	}
}

type oneOp struct {
	c api.Commit
	o api.Op
}

func (x oneOp) dot() api.Dot {
	return api.Dot{Place: x.c.Place, Time: x.c.When[x.c.Place], At: x.o.At}
}

// plainValue says P21 again, of whole commits that come once, by vector.Ahead and
// by asking every op of every other one.
func plainValue(key string, l []api.Commit) api.Value {
	var ops []oneOp
	for _, c := range l {
		for _, o := range c.Ops {
			if o.Key == key {
				ops = append(ops, oneOp{c, o})
			}
		}
	}
	slices.SortStableFunc(ops, func(a, b oneOp) int {
		if ahead, _ := vector.Ahead(a.c.When, a.c.Place, b.c.When, b.c.Place); ahead {
			return -1
		}
		if ahead, _ := vector.Ahead(b.c.When, b.c.Place, a.c.When, a.c.Place); ahead {
			return 1
		}
		return a.o.At - b.o.At
	})
	var v api.Value
	in := map[string]bool{}
	for _, x := range ops {
		if v.Kind == 0 {
			v.Kind = x.o.Kind
		}
		if x.o.Kind != v.Kind {
			continue
		}
		switch {
		case v.Kind == api.Register:
			v.Text = x.o.Text
		case v.Kind == api.Counter:
			v.N += x.o.N
		case !x.o.Remove && !slices.ContainsFunc(ops, func(y oneOp) bool {
			return y.o.Kind == api.Set && y.o.Remove && y.o.Text == x.o.Text && slices.Contains(y.o.Dots, x.dot())
		}):
			in[x.o.Text] = true
		}
	}
	for text := range in {
		v.Set = append(v.Set, text)
	}
	slices.Sort(v.Set)
	return v
}

func TestP4MemoryStaysApart(t *testing.T) {
	// What lies behind the lengths must be neither read nor written.
	ops := []api.Op{add(0, "s", "a"), add(1, "s", "b"), remove(2, "s", "a", api.Dot{Time: 1}), {Key: "WRONG"}}
	l := []api.Commit{commit(0, []int{1, 99}[:1], ops[:3:4]...), commit(0, []int{2}, register(0, "s", "c")), {}}
	before := fmt.Sprint(l, ops)
	for range 2 {
		v, err := values.Of("s", l[:2])
		if err != nil || !reflect.DeepEqual(v.Set, []string{"b"}) {
			t.Fatal(v, err)
		}
		d, err := values.Dots("s", "b", l[:2])
		if err != nil || !slices.Equal(d, []api.Dot{{Time: 1, At: 1}}) {
			t.Fatal(d, err)
		}
		v.Set[0], d[0] = "changed", api.Dot{}
		v.Set, d = append(v.Set, "more"), append(d, api.Dot{})
	}
	if after := fmt.Sprint(l, ops); after != before {
		t.Errorf("what was handed over is %s, was %s", after, before)
	}
}

func TestP1WhateverIsGiven(t *testing.T) {
	numbers := []int{math.MinInt, -1, 0, 1, 2, 6, 7, 12, math.MaxInt}
	for _, n := range numbers {
		for _, m := range numbers {
			o := api.Op{At: n, Key: "k", Kind: m, N: n, Remove: n > 0, Dots: []api.Dot{{Place: m, Time: n, At: m}}}
			c := commit(n, []int{m, n}, o, o)
			err := values.CheckCommit(c)
			if _, of := values.Of("k", []api.Commit{c}); (err == nil) != (of == nil) {
				t.Errorf("%d %d: CheckCommit %v, Of %v", n, m, err, of)
			}
			var f *api.Fault
			if err := values.Check(o, m); errors.As(err, &f) {
				t.Errorf("Check told a place: %v", err)
			}
		}
	}
}

func TestP3WithoutPlace(t *testing.T) {
	var none *api.Fault
	for i, c := range []struct{ err, want error }{
		{nil, nil},
		{api.ErrName, api.ErrName},
		{&api.Fault{At: 3, Err: api.ErrKind}, api.ErrKind},
		{&api.Fault{At: 3}, nil},
		{none, none},
	} {
		if got := values.WithoutPlace(c.err); got != c.want {
			t.Errorf("WithoutPlace %d = %v, want %v", i, got, c.want)
		}
	}
}
