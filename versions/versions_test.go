package versions_test

import (
	"fmt"
	"math"
	"math/rand"
	"slices"
	"strings"
	"testing"

	"causeway/api"
	"causeway/plain"
	"causeway/values"
	"causeway/vector"
	"causeway/versions"
)

func register(at int, key, text string) api.Op {
	return api.Op{At: at, Key: key, Kind: api.Register, Text: text}
}

func counter(at int, key string, n int) api.Op {
	return api.Op{At: at, Key: key, Kind: api.Counter, N: n}
}

func add(at int, key, text string) api.Op {
	return api.Op{At: at, Key: key, Kind: api.Set, Text: text}
}

func remove(at int, key, text string, dots ...api.Dot) api.Op {
	return api.Op{At: at, Key: key, Kind: api.Set, Text: text, Remove: true, Dots: dots}
}

func commit(place int, when []int, ops ...api.Op) api.Commit {
	return api.Commit{When: when, Place: place, Ops: ops}
}

func dot(place, time, at int) api.Dot {
	return api.Dot{Place: place, Time: time, At: at}
}

// put makes versions of commits, all of which must be taken.
func put(t *testing.T, places int, l ...api.Commit) *versions.Versions {
	t.Helper()
	v, err := versions.New(places)
	if err != nil {
		t.Fatal(err)
	}
	for _, c := range l {
		mustPut(t, v, c)
	}
	return v
}

func mustPut(t *testing.T, v *versions.Versions, c api.Commit) {
	t.Helper()
	if err := v.Put(c); err != nil {
		t.Fatalf("Put(%v) = %v", c, err)
	}
}

func mustPrune(t *testing.T, v *versions.Versions, at ...int) {
	t.Helper()
	if err := v.Prune(at); err != nil {
		t.Fatalf("Prune(%v) = %v", at, err)
	}
}

// same: a nil list and an empty one are one thing.
func same(a, b api.Value) bool {
	return a.Kind == b.Kind && a.Text == b.Text && a.N == b.N && slices.Equal(a.Set, b.Set)
}

func wantRead(t *testing.T, name string, v *versions.Versions, key string, at []int, want api.Value) {
	t.Helper()
	if got, err := v.Read(key, at); err != nil || !same(got, want) {
		t.Errorf("%s: Read(%q, %v) = %+v, %v, want %+v", name, key, at, got, err, want)
	}
}

func wantDots(t *testing.T, name string, v *versions.Versions, key, text string, at []int, want ...api.Dot) {
	t.Helper()
	if got, err := v.Dots(key, text, at); err != nil || !slices.Equal(got, want) {
		t.Errorf("%s: Dots(%q, %q, %v) = %v, %v, want %v", name, key, text, at, got, err, want)
	}
}

// wantError: bare if at is below 0, else within a fault that wraps no other fault.
func wantError(t *testing.T, name string, err error, at int, want error) {
	t.Helper()
	if at < 0 || want == nil {
		if err != want {
			t.Errorf("%s: %v, want %v, bare", name, err, want)
		}
		return
	}
	f, ok := err.(*api.Fault)
	if !ok || f.At != at || f.Err != want {
		_, got := plain.Code(err)
		t.Errorf("%s: %v at %d, want %v at %d", name, err, got, want, at)
	}
}

func TestP30New(t *testing.T) {
	for _, places := range []int{math.MinInt, -1, 0, api.MaxPlaces + 1, math.MaxInt} {
		if v, err := versions.New(places); v != nil || err != api.ErrBound {
			t.Errorf("New(%d) = %v, %v, want ErrBound", places, v, err)
		}
	}
	for places := 1; places <= api.MaxPlaces; places++ {
		v := put(t, places)
		if !slices.Equal(v.Base(), make([]int, places)) || len(v.Keys()) != 0 {
			t.Errorf("New(%d): base %v, keys %v", places, v.Base(), v.Keys())
		}
		wantRead(t, "nothing", v, "k", make([]int, places), api.Value{})
		wantDots(t, "nothing", v, "k", "x", make([]int, places))
	}
}

func TestP30PutRefuses(t *testing.T) {
	ok := add(0, "k", "x")
	for i, c := range []struct {
		c    api.Commit
		at   int
		want error
	}{
		{api.Commit{}, -1, api.ErrShape},
		{commit(0, make([]int, api.MaxPlaces+1), ok), -1, api.ErrShape},
		{commit(0, []int{4, -1}, ok), -1, api.ErrBound},
		{commit(0, []int{api.MaxTime + 1, 0}, ok), -1, api.ErrBound},
		{commit(2, []int{4, 4}, ok), -1, api.ErrBound},
		{commit(-1, []int{4, 4}, ok), -1, api.ErrBound},
		{commit(1, []int{4, 0}, ok), -1, api.ErrBound},
		{commit(0, []int{4, 4}), -1, api.ErrShape},
		{commit(0, []int{4, 4}, ok, add(1, "K", "x")), 1, api.ErrName},
		{commit(0, []int{4, 4}, ok, api.Op{At: 1, Key: "k"}), 1, api.ErrKind},
		{commit(0, []int{4, 4}, ok, ok), 1, api.ErrShape},
		{commit(0, []int{4}, add(0, "K", "x")), 0, api.ErrName},
		{commit(0, []int{4}, ok), -1, api.ErrShape},
		{commit(0, []int{4, 4, 4}, ok), -1, api.ErrShape},
		{commit(0, []int{1}, ok), -1, api.ErrShape},
		{commit(0, []int{2, 2}, ok), -1, api.ErrOld},
		{commit(0, []int{1, 0}, ok), -1, api.ErrOld},
		{commit(0, []int{1, 0}, add(0, "K", "x")), 0, api.ErrName},
		{commit(1, []int{0, 1}, add(9, "k", "x")), -1, api.ErrOld},
		{commit(0, []int{1, 9}, ok), 0, api.ErrExist},
	} {
		v := put(t, 2, commit(0, []int{1, 0}, register(0, "r", "a")))
		mustPrune(t, v, 2, 2)
		wantError(t, fmt.Sprint("Put ", i), v.Put(c.c), c.at, c.want)
		if !slices.Equal(v.Keys(), []string{"r"}) || !slices.Equal(v.Base(), []int{2, 2}) {
			t.Errorf("Put %d: keys %v, base %v", i, v.Keys(), v.Base())
		}
		wantRead(t, "behind an error", v, "k", []int{9, 9}, api.Value{})
	}
}

func TestP30Old(t *testing.T) {
	v := put(t, 3)
	mustPrune(t, v, 3, 0, 2)
	for i, c := range []struct {
		place int
		when  []int
		want  error
	}{
		{0, []int{3, 0, 2}, api.ErrOld},
		{2, []int{0, 0, 1}, api.ErrOld},
		{0, []int{4, 0, 0}, nil},
		{0, []int{3, 1, 0}, nil},
		{1, []int{0, 1, 0}, nil},
		{2, []int{0, 0, 3}, nil},
	} {
		wantError(t, fmt.Sprint("Put ", i), v.Put(commit(c.place, c.when, add(0, "k", "x"))), -1, c.want)
	}
}

func TestP30Exist(t *testing.T) {
	first := commit(0, []int{2, 1}, counter(1, "n", 1), counter(4, "m", 10))
	for i, c := range []struct {
		c  api.Commit
		at int // below 0: taken
	}{
		{first, 0},
		{commit(0, []int{2, 1}, counter(4, "m", 10)), 0},
		{commit(0, []int{2, 1}, counter(0, "n", 1), counter(1, "n", 1), counter(4, "n", 1)), 1},
		{commit(0, []int{2, 1}, add(0, "z", ""), add(2, "z", ""), add(3, "z", ""), register(4, "z", "")), 3},
		{commit(0, []int{2, 0}, counter(1, "n", 1)), 0},
		{commit(0, []int{2, 9}, counter(3, "n", 1), register(4, "other", "x")), 1},
		{commit(0, []int{2, 1}, counter(0, "n", 1), counter(2, "n", 1)), -1},
		{commit(1, []int{2, 1}, counter(1, "n", 1), counter(4, "n", 1)), -1},
		{commit(1, []int{1, 2}, counter(1, "n", 1), counter(4, "n", 1)), -1},
		{commit(0, []int{1, 1}, counter(1, "n", 1), counter(4, "n", 1)), -1},
		{commit(0, []int{3, 1}, counter(1, "n", 1), counter(4, "n", 1)), -1},
	} {
		v := put(t, 2, first)
		n := 1
		if c.at < 0 {
			wantError(t, fmt.Sprint("Put ", i), v.Put(c.c), -1, nil)
			n += 2
		} else {
			wantError(t, fmt.Sprint("Put ", i), v.Put(c.c), c.at, api.ErrExist)
		}
		wantRead(t, fmt.Sprint("behind Put ", i), v, "n", []int{9, 9}, api.Value{Kind: api.Counter, N: n})
		wantRead(t, fmt.Sprint("behind Put ", i), v, "z", []int{9, 9}, api.Value{})
		if !slices.Equal(v.Keys(), []string{"m", "n"}) {
			t.Errorf("behind Put %d: keys %v", i, v.Keys())
		}
	}
}

// TestP30ExistOutlastsPruning: what pruning lets go of is there all the same.
func TestP30ExistOutlastsPruning(t *testing.T) {
	v := put(t, 2,
		commit(0, []int{1, 0}, add(0, "s", "a"), register(1, "r", "x"), counter(2, "n", 1)),
		commit(0, []int{2, 0}, remove(0, "s", "a", dot(0, 1, 0)), register(1, "r", "y"), counter(2, "n", 1)),
		commit(0, []int{3, 0}, register(1, "r", "z"), counter(2, "n", 1)),
		commit(0, []int{4, 0}, remove(0, "s", "a"), counter(2, "n", 1)),
	)
	mustPrune(t, v, 4, 0)
	for time, ats := range [][]int{{0, 1, 2}, {0, 1, 2}, {1, 2}, {0, 2}} {
		for _, at := range ats {
			wantError(t, "again", v.Put(commit(0, []int{time + 1, 1}, add(at, "s", "a"))), 0, api.ErrExist)
		}
	}
	mustPut(t, v, commit(0, []int{3, 1}, add(0, "s", "a")))
	wantDots(t, "a part that had not come", v, "s", "a", []int{4, 1}, dot(0, 3, 0))
}

func TestP31Read(t *testing.T) {
	v := put(t, 2,
		commit(1, []int{0, 1}, register(0, "r", "one"), add(1, "s", "a")),
		commit(0, []int{2, 1}, register(0, "r", "two"), counter(1, "n", 7)),
		commit(0, []int{1, 0}, counter(0, "n", 5), counter(1, "n", -2), add(2, "s", "b")),
		commit(1, []int{1, 3}, remove(0, "s", "b", dot(0, 1, 2)), counter(1, "r", 9)),
		commit(1, []int{0, 2}, add(4, "s", "c")),
	)
	for _, c := range []struct {
		key  string
		at   []int
		want api.Value
	}{
		{"r", []int{0, 0}, api.Value{}},
		{"r", []int{9, 0}, api.Value{}},
		{"r", []int{0, 1}, api.Value{Kind: api.Register, Text: "one"}},
		{"r", []int{1, 9}, api.Value{Kind: api.Register, Text: "one"}},
		{"r", []int{2, 1}, api.Value{Kind: api.Register, Text: "two"}},
		{"r", []int{api.MaxTime, api.MaxTime}, api.Value{Kind: api.Register, Text: "two"}},
		{"n", []int{0, 9}, api.Value{}},
		{"n", []int{1, 0}, api.Value{Kind: api.Counter, N: 3}},
		{"n", []int{2, 0}, api.Value{Kind: api.Counter, N: 3}},
		{"n", []int{2, 1}, api.Value{Kind: api.Counter, N: 10}},
		{"s", []int{0, 0}, api.Value{}},
		{"s", []int{1, 0}, api.Value{Kind: api.Set, Set: []string{"b"}}},
		{"s", []int{1, 1}, api.Value{Kind: api.Set, Set: []string{"a", "b"}}},
		{"s", []int{0, 9}, api.Value{Kind: api.Set, Set: []string{"a", "c"}}},
		{"s", []int{1, 2}, api.Value{Kind: api.Set, Set: []string{"a", "b", "c"}}},
		{"s", []int{1, 3}, api.Value{Kind: api.Set, Set: []string{"a", "c"}}},
		{"none", []int{9, 9}, api.Value{}},
	} {
		wantRead(t, "read", v, c.key, c.at, c.want)
	}
	wantDots(t, "not seen", v, "s", "b", []int{0, 9})
	wantDots(t, "seen", v, "s", "b", []int{1, 2}, dot(0, 1, 2))
	wantDots(t, "removed", v, "s", "b", []int{1, 3})
	wantDots(t, "another text", v, "s", "c", []int{0, 2}, dot(1, 2, 4))
	wantDots(t, "no such text", v, "s", strings.Repeat("c", 100), []int{9, 9})
	wantDots(t, "no set", v, "n", "", []int{9, 9})
	wantDots(t, "no such key", v, "none", "a", []int{9, 9})
}

func TestP31Refuses(t *testing.T) {
	v := put(t, 2, commit(0, []int{1, 0}, add(0, "k", "x")))
	mustPrune(t, v, 1, 2)
	for i, c := range []struct {
		key  string
		at   []int
		want error
	}{
		{"", nil, api.ErrName},
		{"K", []int{9, 9}, api.ErrName},
		{strings.Repeat("k", api.MaxName+1), []int{0, 0}, api.ErrName},
		{"k", nil, api.ErrShape},
		{"k", []int{}, api.ErrShape},
		{"k", make([]int, api.MaxPlaces+1), api.ErrShape},
		{"k", []int{-1}, api.ErrBound},
		{"k", []int{9, api.MaxTime + 1}, api.ErrBound},
		{"k", []int{math.MinInt, math.MaxInt}, api.ErrBound},
		{"k", []int{9}, api.ErrShape},
		{"k", []int{0}, api.ErrShape},
		{"k", []int{9, 9, 9}, api.ErrShape},
		{"k", []int{0, 0}, api.ErrOld},
		{"k", []int{1, 1}, api.ErrOld},
		{"k", []int{0, 2}, api.ErrOld},
		{"k", []int{api.MaxTime, 1}, api.ErrOld},
		{"none", []int{0, 9}, api.ErrOld},
		{"k", []int{1, 2}, nil},
		{"k", []int{2, 2}, nil},
	} {
		got, err := v.Read(c.key, c.at)
		if err != c.want || err != nil && !same(got, api.Value{}) {
			t.Errorf("%d: Read(%q, %v) = %v, %v, want %v", i, c.key, c.at, got, err, c.want)
		}
		dots, err := v.Dots(c.key, "x", c.at)
		if err != c.want || err != nil && len(dots) != 0 {
			t.Errorf("%d: Dots(%q, %v) = %v, %v, want %v", i, c.key, c.at, dots, err, c.want)
		}
	}
}

func TestP32Base(t *testing.T) {
	v := put(t, 3)
	for _, c := range []struct {
		at   []int
		base []int
		want error
	}{
		{[]int{0, 0, 0}, []int{0, 0, 0}, nil},
		{[]int{2, 0, 1}, []int{2, 0, 1}, nil},
		{[]int{1, 5, 1}, []int{2, 5, 1}, nil},
		{[]int{0, 0, 0}, []int{2, 5, 1}, nil},
		{nil, []int{2, 5, 1}, api.ErrShape},
		{[]int{}, []int{2, 5, 1}, api.ErrShape},
		{[]int{9, 9}, []int{2, 5, 1}, api.ErrShape},
		{[]int{9, 9, 9, 9}, []int{2, 5, 1}, api.ErrShape},
		{make([]int, api.MaxPlaces+1), []int{2, 5, 1}, api.ErrShape},
		{[]int{9, 9, -1}, []int{2, 5, 1}, api.ErrBound},
		{[]int{-1}, []int{2, 5, 1}, api.ErrBound},
		{[]int{9, 9, api.MaxTime + 1}, []int{2, 5, 1}, api.ErrBound},
		{[]int{0, 0, api.MaxTime}, []int{2, 5, api.MaxTime}, nil},
	} {
		if err := v.Prune(c.at); err != c.want || !slices.Equal(v.Base(), c.base) {
			t.Errorf("Prune(%v) = %v, base %v, want %v, %v", c.at, err, v.Base(), c.want, c.base)
		}
	}
}

func TestP32Keys(t *testing.T) {
	v := put(t, 2,
		commit(0, []int{1, 0}, add(0, "m", "x"), add(1, "b", "x"), add(2, "m", "y")),
		commit(1, []int{0, 1}, register(0, "z", ""), counter(1, "-", 0), remove(2, "0", "x")),
	)
	want := []string{"-", "0", "b", "m", "z"}
	if got := v.Keys(); !slices.Equal(got, want) {
		t.Errorf("Keys = %q, want %q", got, want)
	}
	mustPut(t, v, commit(1, []int{0, 2}, remove(0, "m", "x", dot(0, 1, 0)), remove(1, "b", "x", dot(0, 1, 1))))
	mustPrune(t, v, 9, 9)
	if got := v.Keys(); !slices.Equal(got, want) {
		t.Errorf("pruned, Keys = %q, want %q", got, want)
	}
	if err := v.Put(commit(0, []int{9, 9}, add(0, "old", "x"))); err != api.ErrOld || !slices.Equal(v.Keys(), want) {
		t.Errorf("behind %v, Keys = %q, want %q", err, v.Keys(), want)
	}
}

func TestP32Copy(t *testing.T) {
	l := []api.Commit{
		commit(0, []int{1, 0}, counter(0, "n", 1), add(1, "s", "a"), register(2, "r", "x")),
		commit(0, []int{2, 0}, counter(0, "n", 1), remove(1, "s", "a", dot(0, 1, 1), dot(1, 1, 1)), register(2, "r", "y")),
	}
	tell := func(v *versions.Versions) string {
		out := fmt.Sprint(v.Base(), v.Keys())
		for _, at := range [][]int{{1, 0}, {2, 0}, {2, 1}, {2, 2}} {
			for _, key := range []string{"n", "s", "r"} {
				got, err := v.Read(key, at)
				dots, _ := v.Dots(key, "a", at)
				out += fmt.Sprint(got, dots, err)
			}
		}
		return out
	}
	late := commit(1, []int{0, 1}, counter(0, "n", 4), add(1, "s", "a"), add(2, "t", "x"))
	v := put(t, 2, l...)
	w := v.Copy()
	before := tell(v)
	if tell(w) != before {
		t.Errorf("a copy tells %s, not %s", tell(w), before)
	}
	mustPrune(t, w, 2, 0)
	mustPut(t, w, late)
	if tell(v) != before {
		t.Errorf("a change of the copy shows: %s, was %s", tell(v), before)
	}
	after := tell(w)
	x := w.Copy()
	wantError(t, "the copy has what was put", x.Put(late), 0, api.ErrExist)
	mustPrune(t, v, 1, 1)
	mustPut(t, v, commit(0, []int{3, 0}, counter(0, "n", 9), register(1, "r", "z")))
	if tell(w) != after || tell(x) != after {
		t.Errorf("a change of what was copied shows: %s, %s, was %s", tell(w), tell(x), after)
	}
}

// TestP33KindsStayOpen: what is put behind a prune may be the first op of all, and bring another kind.
func TestP33KindsStayOpen(t *testing.T) {
	v := put(t, 2,
		commit(0, []int{2, 0}, register(0, "k", "a"), register(1, "k", "b"), register(2, "k", "c")),
		commit(0, []int{3, 0}, counter(0, "k", 5), counter(1, "k", 6)),
		commit(0, []int{4, 0}, add(0, "k", "x"), add(1, "k", "y"), remove(2, "k", "x", dot(0, 4, 0), dot(1, 2, 0))),
	)
	mustPrune(t, v, 4, 0)
	wantRead(t, "pruned", v, "k", []int{4, 0}, api.Value{Kind: api.Register, Text: "c"})
	w, x := v.Copy(), v.Copy()
	mustPut(t, v, commit(1, []int{0, 1}, counter(0, "k", 1)))
	wantRead(t, "ahead", v, "k", []int{4, 1}, api.Value{Kind: api.Counter, N: 12})
	mustPut(t, w, commit(1, []int{0, 1}, add(0, "k", "x")))
	mustPut(t, w, commit(1, []int{0, 2}, add(0, "k", "x")))
	wantRead(t, "ahead", w, "k", []int{4, 2}, api.Value{Kind: api.Set, Set: []string{"x", "y"}})
	wantDots(t, "named ahead of coming", w, "k", "x", []int{4, 2}, dot(1, 1, 0))
	mustPut(t, x, commit(1, []int{0, 1}, register(0, "k", "late")))
	wantRead(t, "ahead, of the same kind", x, "k", []int{4, 1}, api.Value{Kind: api.Register, Text: "c"})
	mustPut(t, x, commit(1, []int{4, 2}, register(0, "k", "last")))
	wantRead(t, "behind", x, "k", []int{4, 2}, api.Value{Kind: api.Register, Text: "last"})
}

// TestP33GreatCounters: a sum may be more than an op may have.
func TestP33GreatCounters(t *testing.T) {
	v := put(t, 1)
	sum := 0
	for time, n := range []int{api.MaxTime, api.MaxTime, 1, -api.MaxTime, -api.MaxTime, -api.MaxTime, -1, -api.MaxTime, 7} {
		mustPut(t, v, commit(0, []int{time + 1}, counter(0, "n", n)))
		mustPrune(t, v, time+1)
		sum += n
		wantRead(t, "pruned", v, "n", []int{time + 1}, api.Value{Kind: api.Counter, N: sum})
	}
}

// plainStore says P30 to P32 again, and lets go of nothing.
type plainStore struct {
	base []int
	l    []api.Commit
}

func (s *plainStore) put(c api.Commit) (int, error) {
	if in, _ := vector.Within(c.When, s.base); in {
		return -1, api.ErrOld
	}
	for i, o := range c.Ops {
		for _, d := range s.l {
			if d.Place == c.Place && d.When[d.Place] == c.When[c.Place] && slices.ContainsFunc(d.Ops, func(p api.Op) bool { return p.At == o.At }) {
				return i, api.ErrExist
			}
		}
	}
	s.l = append(s.l, c)
	return -1, nil
}

func (s *plainStore) within(at []int) []api.Commit {
	return slices.DeleteFunc(slices.Clone(s.l), func(c api.Commit) bool {
		in, _ := vector.Within(c.When, at)
		return !in
	})
}

func (s *plainStore) hold(t *testing.T, v *versions.Versions, at []int) {
	t.Helper()
	old := error(nil)
	if in, _ := vector.Within(s.base, at); !in {
		old = api.ErrOld
	}
	for _, key := range []string{"r", "n", "s", "m", "none"} {
		want, _ := values.Of(key, s.within(at))
		if old != nil {
			want = api.Value{}
		}
		if got, err := v.Read(key, at); err != old || !same(got, want) {
			t.Fatalf("base %v: Read(%q, %v) = %+v, %v, want %+v, %v, of %v", s.base, key, at, got, err, want, old, s.l)
		}
		for _, text := range []string{"", "a", "b"} {
			want, _ := values.Dots(key, text, s.within(at))
			if old != nil {
				want = nil
			}
			if got, err := v.Dots(key, text, at); err != old || !slices.Equal(got, want) {
				t.Fatalf("base %v: Dots(%q, %q, %v) = %v, %v, want %v, %v, of %v", s.base, key, text, at, got, err, want, old, s.l)
			}
		}
	}
}

func (s *plainStore) keys() []string {
	var keys []string
	for _, c := range s.l {
		for _, o := range c.Ops {
			keys = append(keys, o.Key)
		}
	}
	slices.Sort(keys)
	return slices.Compact(keys)
}

func randomVector(r *rand.Rand, places, most int) []int {
	v := make([]int, places)
	for i := range v {
		v[i] = r.Intn(most + 1)
	}
	return v
}

func randomDots(r *rand.Rand, places, most int) []api.Dot {
	var dots []api.Dot
	for range r.Intn(12) {
		dots = append(dots, dot(r.Intn(places), 1+r.Intn(most), r.Intn(3)))
	}
	return dots
}

func randomOp(r *rand.Rand, at, places, most int) api.Op {
	key := []string{"r", "n", "s", "s", "m", "m"}[r.Intn(6)]
	text := []string{"", "a", "b"}[r.Intn(3)]
	kind := map[string]int{"r": api.Register, "n": api.Counter, "s": api.Set, "m": 1 + r.Intn(3)}[key]
	switch {
	case kind == api.Register:
		return register(at, key, fmt.Sprint(text, r.Intn(100)))
	case kind == api.Counter && r.Intn(3) == 0:
		return counter(at, key, []int{api.MaxTime, -api.MaxTime}[r.Intn(2)])
	case kind == api.Counter:
		return counter(at, key, r.Intn(100)-50)
	case r.Intn(3) > 0:
		return add(at, key, text)
	}
	return remove(at, key, text, randomDots(r, places, most)...)
}

// randomCommit may well be old, or be there already: its times are few.
func randomCommit(r *rand.Rand, places, most int) api.Commit {
	c := commit(r.Intn(places), randomVector(r, places, most))
	c.When[c.Place] = 1 + r.Intn(most)
	for at := range 3 {
		if r.Intn(2) == 0 || at == 2 && len(c.Ops) == 0 {
			c.Ops = append(c.Ops, randomOp(r, at, places, most))
		}
	}
	return c
}

func TestP33PrunedOrNot(t *testing.T) {
	r := rand.New(rand.NewSource(33))
	ends := map[error]int{}
	for range 150 {
		places, most := 1+r.Intn(4), 2+r.Intn(6)
		v := put(t, places)
		s := &plainStore{base: make([]int, places)}
		for range 40 {
			if r.Intn(4) == 0 {
				at := randomVector(r, places, 1+r.Intn(most))
				mustPrune(t, v, at...)
				s.base, _ = vector.Most(s.base, at)
			} else {
				c := randomCommit(r, places, most)
				at, want := s.put(c)
				wantError(t, "put", v.Put(c), at, want)
				ends[want]++
			}
			if r.Intn(5) == 0 {
				v = v.Copy()
			}
			for range 3 {
				s.hold(t, v, randomVector(r, places, most+1))
				at, _ := vector.Most(s.base, randomVector(r, places, most+1))
				s.hold(t, v, at)
			}
		}
		if !slices.Equal(v.Keys(), s.keys()) || !slices.Equal(v.Base(), s.base) {
			t.Fatalf("keys %v, base %v, want %v, %v", v.Keys(), v.Base(), s.keys(), s.base)
		}
	}
	if min(ends[nil], ends[api.ErrOld], ends[api.ErrExist]) < 500 {
		t.Error("the walk does not try enough:", ends)
	}
}

// TestP2ByAnyOrder: whatever order parts come in, and whenever it is pruned, what may be read is the same.
func TestP2ByAnyOrder(t *testing.T) {
	r := rand.New(rand.NewSource(2))
	for range 100 {
		s := &plainStore{base: make([]int, 3)}
		for range 30 {
			s.put(randomCommit(r, 3, 6))
		}
		base := randomVector(r, 3, 6)
		v := put(t, 3)
		r.Shuffle(len(s.l), func(i, j int) { s.l[i], s.l[j] = s.l[j], s.l[i] })
		var late []api.Commit
		for i, c := range s.l {
			if in, _ := vector.Within(c.When, base); in || i%2 == 0 {
				mustPut(t, v, c)
			} else {
				late = append(late, c)
			}
		}
		mustPrune(t, v, base...)
		for _, c := range late {
			for _, o := range c.Ops {
				mustPut(t, v, commit(c.Place, c.When, o))
			}
		}
		s.base = base
		for range 20 {
			s.hold(t, v, randomVector(r, 3, 7))
		}
	}
}

func TestP4MemoryStaysApart(t *testing.T) {
	dots := []api.Dot{dot(0, 9, 0), dot(0, 1, 1), dot(1, -9, 0)}
	ops := []api.Op{add(0, "s", "a"), add(1, "s", "b"), remove(2, "s", "b", dots[:2]...), counter(3, "n", 1), {Key: "WRONG"}}
	when := []int{1, 0, -9}
	v := put(t, 2, commit(0, when[:2], ops[:4]...))
	before := fmt.Sprint(dots, ops, when)
	mustPut(t, v, commit(0, []int{2, 0}, counter(0, "n", 1)))
	mustPrune(t, v.Copy(), 2, 0)
	w := v.Copy()
	mustPrune(t, w, 2, 0)
	if after := fmt.Sprint(dots, ops, when); after != before {
		t.Errorf("what was handed over is %s, was %s", after, before)
	}
	ops[0].Text, ops[3].N, when[0], dots[1] = "changed", 99, 9, dot(0, 1, 0)
	at := []int{2, 0}
	mustPrune(t, w, at...)
	at[0] = 9
	for range 2 {
		for _, x := range []*versions.Versions{v, w} {
			wantRead(t, "apart", x, "s", []int{2, 0}, api.Value{Kind: api.Set, Set: []string{"a"}})
			wantRead(t, "apart", x, "n", []int{2, 0}, api.Value{Kind: api.Counter, N: 2})
			wantDots(t, "apart", x, "s", "a", []int{2, 0}, dot(0, 1, 0))
			got, _ := x.Read("s", []int{2, 0})
			d, _ := x.Dots("s", "a", []int{2, 0})
			base, keys := x.Base(), x.Keys()
			got.Set[0], d[0], base[0], keys[0] = "changed", api.Dot{}, 99, "changed"
		}
	}
	if !slices.Equal(w.Base(), []int{2, 0}) || !slices.Equal(w.Keys(), []string{"n", "s"}) {
		t.Error("what was answered is shared:", w.Base(), w.Keys())
	}
}

// TestP1WhateverIsGiven: also what New answers beside an error.
func TestP1WhateverIsGiven(t *testing.T) {
	none, _ := versions.New(0)
	for _, v := range []*versions.Versions{none, {}, none.Copy(), (&versions.Versions{}).Copy()} {
		ok := commit(0, []int{1}, add(0, "k", "x"))
		_, read := v.Read("k", []int{1})
		_, dots := v.Dots("k", "x", []int{1})
		for i, err := range []error{v.Put(ok), v.Prune([]int{1}), read, dots} {
			if err != api.ErrShape {
				t.Errorf("%d: %v, want ErrShape", i, err)
			}
		}
		if len(v.Base()) != 0 || len(v.Keys()) != 0 {
			t.Error(v.Base(), v.Keys())
		}
	}
	v := put(t, 2)
	numbers := []int{math.MinInt, -1, 0, 1, 2, 6, 7, 12, api.MaxTime, math.MaxInt}
	for _, n := range numbers {
		for _, m := range numbers {
			o := api.Op{At: n, Key: "k", Kind: m, N: n, Remove: n > 0, Dots: []api.Dot{dot(m, n, m)}}
			v.Put(commit(n, []int{m, n}, o, o))
			v.Put(commit(0, []int{m, n}, add(0, "k", "x")))
			for _, at := range [][]int{{n, m}, {n}, {n, m, n}} {
				v.Read("k", at)
				v.Dots("k", "x", at)
				v.Copy().Prune(at)
			}
		}
	}
}
