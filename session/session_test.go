package session_test

import (
	"fmt"
	"math"
	"reflect"
	"slices"
	"strings"
	"testing"

	"causeway/api"
	"causeway/place"
	"causeway/session"
	"causeway/wire"
)

func newPlace(t *testing.T, id, places, shards int) *place.Place {
	t.Helper()
	p, err := place.New(id, places, shards)
	if err != nil {
		t.Fatalf("place.New(%d, %d, %d) = %v", id, places, shards, err)
	}
	return p
}

func newSession(t *testing.T, places int) *session.Session {
	t.Helper()
	s, err := session.New(places)
	if err != nil || s == nil {
		t.Fatalf("New(%d) = %v, %v", places, s, err)
	}
	return s
}

// begun is a session with a transaction at a place.
func begun(t *testing.T, p *place.Place) *session.Session {
	t.Helper()
	s := newSession(t, len(p.Snapshot()))
	mustBegin(t, s, p)
	return s
}

func mustBegin(t *testing.T, s *session.Session, p *place.Place) []int {
	t.Helper()
	at, err := s.Begin(p)
	if err != nil {
		t.Fatalf("Begin = %v", err)
	}
	return at
}

func mustCommit(t *testing.T, s *session.Session) (api.Commit, []wire.Message) {
	t.Helper()
	c, l, err := s.Commit()
	if err != nil {
		t.Fatalf("Commit = %v", err)
	}
	return c, l
}

// mustDo ops: none of them is refused.
func mustDo(t *testing.T, errs ...error) {
	t.Helper()
	for i, err := range errs {
		if err != nil {
			t.Fatalf("op %d: %v", i, err)
		}
	}
}

// put what the place has ahead of a transaction.
func put(t *testing.T, p *place.Place, ops ...api.Op) []wire.Message {
	t.Helper()
	_, l, err := p.Commit(p.Snapshot(), ops)
	if err != nil {
		t.Fatalf("place's Commit(%v) = %v", ops, err)
	}
	return l
}

func hear(t *testing.T, p *place.Place, l []wire.Message) {
	t.Helper()
	for _, m := range l {
		if m.To != p.ID() {
			continue
		}
		if _, err := p.Hear(m); err != nil {
			t.Fatalf("Hear(%+v) = %v", m, err)
		}
	}
}

func register(key, text string) api.Op {
	return api.Op{Key: key, Kind: api.Register, Text: text}
}

func counter(key string, n int) api.Op {
	return api.Op{Key: key, Kind: api.Counter, N: n}
}

func add(key, text string) api.Op {
	return api.Op{Key: key, Kind: api.Set, Text: text}
}

func remove(key, text string, dots ...api.Dot) api.Op {
	return api.Op{Key: key, Kind: api.Set, Text: text, Remove: true, Dots: dots}
}

func isRegister(text string) api.Value { return api.Value{Kind: api.Register, Text: text} }

func isCounter(n int) api.Value { return api.Value{Kind: api.Counter, N: n} }

func isSet(texts ...string) api.Value { return api.Value{Kind: api.Set, Set: texts} }

func sameValue(a, b api.Value) bool {
	return a.Kind == b.Kind && a.Text == b.Text && a.N == b.N && slices.Equal(a.Set, b.Set)
}

// plainly: a nil list and an empty one are one thing.
func plainly(c api.Commit) api.Commit {
	c = wire.Copy(wire.Message{C: c}).C
	if len(c.When) == 0 {
		c.When = nil
	}
	if len(c.Ops) == 0 {
		c.Ops = nil
	}
	for i := range c.Ops {
		if len(c.Ops[i].Dots) == 0 {
			c.Ops[i].Dots = nil
		}
	}
	return c
}

func sameCommit(a, b api.Commit) bool {
	return reflect.DeepEqual(plainly(a), plainly(b))
}

func wantRead(t *testing.T, name string, s *session.Session, key string, want api.Value) {
	t.Helper()
	if got, err := s.Read(key); err != nil || !sameValue(got, want) {
		t.Errorf("%s: Read(%q) = %+v, %v, want %+v", name, key, got, err, want)
	}
}

func wantToken(t *testing.T, name string, s *session.Session, want ...int) {
	t.Helper()
	if got := s.Token(); !slices.Equal(got, want) {
		t.Errorf("%s: token %v, want %v", name, got, want)
	}
}

func wantOpen(t *testing.T, name string, s *session.Session, want bool) {
	t.Helper()
	if s.Open() != want {
		t.Errorf("%s: open is %v", name, !want)
	}
}

// wantRefused to begin, bare, with nothing changed.
func wantRefused(t *testing.T, name string, s *session.Session, p *place.Place, want error) {
	t.Helper()
	token, open := s.Token(), s.Open()
	if at, err := s.Begin(p); len(at) != 0 || err != want {
		t.Errorf("%s: Begin = %v, %v, want %v", name, at, err, want)
	}
	wantToken(t, name, s, token...)
	wantOpen(t, name, s, open)
}

func TestP70New(t *testing.T) {
	for _, places := range []int{math.MinInt, -1, 0, api.MaxPlaces + 1, math.MaxInt} {
		if s, err := session.New(places); s != nil || err != api.ErrBound {
			t.Errorf("New(%d) = %v, %v, want ErrBound", places, s, err)
		}
	}
	for places := 1; places <= api.MaxPlaces; places++ {
		s := newSession(t, places)
		wantToken(t, "new", s, make([]int, places)...)
		wantOpen(t, "new", s, false)
		if at := mustBegin(t, s, newPlace(t, places-1, places, 1)); !slices.Equal(at, make([]int, places)) {
			t.Errorf("Begin of %d places = %v", places, at)
		}
	}
}

func TestP70Begin(t *testing.T) {
	p := newPlace(t, 0, 2, 1)
	put(t, p, counter("n", 1))
	put(t, p, counter("n", 2))
	s := newSession(t, 2)
	if at := mustBegin(t, s, p); !slices.Equal(at, []int{2, 0}) {
		t.Errorf("Begin = %v", at)
	}
	wantToken(t, "the token becomes at", s, 2, 0)
	wantOpen(t, "begun", s, true)
	// What comes to the place later is not seen.
	put(t, p, counter("n", 4))
	wantRead(t, "at", s, "n", isCounter(3))
	mustDo(t, s.Abort())
	wantToken(t, "aborted", s, 2, 0)
	mustBegin(t, s, p)
	wantRead(t, "a new at", s, "n", isCounter(7))
}

func TestP70BeginRefuses(t *testing.T) {
	p, q, other := newPlace(t, 0, 2, 1), newPlace(t, 1, 2, 1), newPlace(t, 0, 3, 1)
	l := put(t, p, counter("n", 1))
	s := newSession(t, 2)
	wantRefused(t, "more places", s, other, api.ErrShape)
	wantRefused(t, "fewer places", newSession(t, 2), newPlace(t, 0, 1, 1), api.ErrShape)
	mustBegin(t, s, p)
	for i, at := range []*place.Place{p, q, other} {
		wantRefused(t, fmt.Sprint("open, ", i), s, at, api.ErrHeld)
	}
	wantRead(t, "held", s, "n", isCounter(1))
	mustDo(t, s.Abort())
	wantRefused(t, "not seen there", s, q, api.ErrWait)
	wantRefused(t, "of another form, too", s, other, api.ErrShape)
	hear(t, q, l)
	if at := mustBegin(t, s, q); !slices.Equal(at, []int{1, 0}) {
		t.Errorf("it has come: %v", at)
	}
	mustDo(t, s.Abort())
	put(t, q, counter("n", 1))
	mustBegin(t, s, q)
	mustDo(t, s.Abort())
	put(t, p, counter("n", 1))
	wantRefused(t, "neither has seen the other one", s, p, api.ErrWait)
}

// TestP70NoPlace: a place or a session that New did not make begins nothing.
func TestP70NoPlace(t *testing.T) {
	wantRefused(t, "a place of nothing", newSession(t, 1), &place.Place{}, api.ErrShape)
	for i, s := range []*session.Session{nil, {}} {
		wantRefused(t, fmt.Sprint("no session, ", i), s, newPlace(t, 0, 1, 1), api.ErrShape)
		wantRefused(t, fmt.Sprint("no session, no place, ", i), s, &place.Place{}, api.ErrShape)
		wantNone(t, fmt.Sprint("no session, ", i), s)
		wantToken(t, "no session", s)
	}
}

func TestP71Read(t *testing.T) {
	p := newPlace(t, 1, 2, 2)
	put(t, p, register("r", "x"), counter("n", 5), add("s", "b"), add("s", "a"))
	s := begun(t, p)
	wantRead(t, "register", s, "r", isRegister("x"))
	wantRead(t, "counter", s, "n", isCounter(5))
	wantRead(t, "set", s, "s", isSet("a", "b"))
	wantRead(t, "nothing", s, "z", api.Value{})
}

func TestP71OwnOps(t *testing.T) {
	for _, c := range []struct {
		name string
		here []api.Op
		own  func(s *session.Session) []error
		want api.Value
	}{
		{"set", nil, func(s *session.Session) []error { return []error{s.Set("k", "x")} }, isRegister("x")},
		{"set to nothing", []api.Op{register("k", "x")}, func(s *session.Session) []error { return []error{s.Set("k", "")} }, isRegister("")},
		{"the last one", []api.Op{register("k", "z")}, func(s *session.Session) []error { return []error{s.Set("k", "y"), s.Set("k", "x")} }, isRegister("x")},
		{"added", nil, func(s *session.Session) []error { return []error{s.Add("k", 3), s.Add("k", -5)} }, isCounter(-2)},
		{"0 is added", nil, func(s *session.Session) []error { return []error{s.Add("k", 0)} }, isCounter(0)},
		{"added to what is there", []api.Op{counter("k", 10)}, func(s *session.Session) []error { return []error{s.Add("k", 3), s.Add("k", 4)} }, isCounter(17)},
		{"put", nil, func(s *session.Session) []error { return []error{s.Put("k", "b"), s.Put("k", "a")} }, isSet("a", "b")},
		{"put twice", []api.Op{add("k", "b")}, func(s *session.Session) []error {
			return []error{s.Put("k", "b"), s.Put("k", "a"), s.Put("k", "a"), s.Put("k", "")}
		}, isSet("", "a", "b")},
		{"dropped", []api.Op{add("k", "a"), add("k", "b"), add("k", "a")}, func(s *session.Session) []error { return []error{s.Drop("k", "a")} }, isSet("b")},
		{"the last one is dropped", []api.Op{add("k", "")}, func(s *session.Session) []error { return []error{s.Drop("k", "")} }, isSet()},
		{"dropped twice", []api.Op{add("k", "a")}, func(s *session.Session) []error { return []error{s.Drop("k", "a"), s.Drop("k", "a")} }, isSet()},
		{"dropped, put", []api.Op{add("k", "a")}, func(s *session.Session) []error { return []error{s.Drop("k", "a"), s.Put("k", "a")} }, isSet("a")},
		{"put, dropped: an own op has no dots yet", []api.Op{add("k", "a")}, func(s *session.Session) []error { return []error{s.Put("k", "a"), s.Drop("k", "a")} }, isSet("a")},
		{"dropped of a set of nobody", nil, func(s *session.Session) []error { return []error{s.Drop("k", "a")} }, isSet()},
		{"dropped of another text", []api.Op{add("k", "a")}, func(s *session.Session) []error { return []error{s.Drop("k", "b")} }, isSet("a")},
		{"of another key", []api.Op{add("k", "a"), add("j", "a")}, func(s *session.Session) []error {
			return []error{s.Set("j1", "x"), s.Drop("j", "a"), s.Put("j", "b"), s.Add("n", 1)}
		}, isSet("a")},
		{"what was dropped there is none of the set's", []api.Op{remove("k", "a", api.Dot{Time: 9}), add("k", "b")}, func(s *session.Session) []error { return []error{s.Drop("k", "a")} }, isSet("b")},
	} {
		p := newPlace(t, 0, 2, 3)
		if len(c.here) > 0 {
			put(t, p, c.here...)
		}
		s := begun(t, p)
		mustDo(t, c.own(s)...)
		wantRead(t, c.name, s, "k", c.want)
		// Behind the commit it is the same.
		mustCommit(t, s)
		mustBegin(t, s, p)
		wantRead(t, c.name+", committed", s, "k", c.want)
	}
}

func TestP71OfAnotherKind(t *testing.T) {
	own := func(s *session.Session) []error {
		return []error{s.Add("k", 3), s.Set("k", "x"), s.Drop("k", "a"), s.Put("k", "b"), s.Add("k", 4), s.Set("k", "y"), s.Put("k", "c")}
	}
	for _, c := range []struct {
		name string
		here []api.Op
		want api.Value
	}{
		{"the place has none: the first op tells the kind", nil, isCounter(7)},
		{"a register", []api.Op{register("k", "z")}, isRegister("y")},
		{"a counter", []api.Op{counter("k", 10)}, isCounter(17)},
		{"a set", []api.Op{add("k", "a"), add("k", "z")}, isSet("b", "c", "z")},
		{"a set of nothing", []api.Op{remove("k", "a")}, isSet("b", "c")},
		{"of another key", []api.Op{register("j", "z")}, isCounter(7)},
	} {
		p := newPlace(t, 0, 1, 1)
		if len(c.here) > 0 {
			put(t, p, c.here...)
		}
		s := begun(t, p)
		mustDo(t, own(s)...)
		wantRead(t, c.name, s, "k", c.want)
		committed, _ := mustCommit(t, s)
		if len(committed.Ops) != 7 {
			t.Errorf("%s: %d ops: what is passed over is committed all the same", c.name, len(committed.Ops))
		}
		mustBegin(t, s, p)
		wantRead(t, c.name+", committed", s, "k", c.want)
	}
	for i, first := range []func(s *session.Session) error{
		func(s *session.Session) error { return s.Set("k", "r") },
		func(s *session.Session) error { return s.Put("k", "a") },
		func(s *session.Session) error { return s.Drop("k", "a") },
	} {
		s := begun(t, newPlace(t, 0, 1, 1))
		mustDo(t, first(s))
		mustDo(t, own(s)...)
		wantRead(t, "first", s, "k", []api.Value{isRegister("y"), isSet("a", "b", "c"), isSet("b", "c")}[i])
	}
	p := newPlace(t, 0, 1, 1)
	put(t, p, register("k", "z"), add("s", "a"))
	s := begun(t, p)
	mustDo(t, s.Add("k", 1), s.Put("k", "z"), s.Drop("k", "z"), s.Set("s", "a"), s.Add("s", 1))
	wantRead(t, "nothing of its kind", s, "k", isRegister("z"))
	wantRead(t, "nothing of its kind", s, "s", isSet("a"))
}

func TestP71Dots(t *testing.T) {
	p, q := newPlace(t, 0, 2, 1), newPlace(t, 1, 2, 1)
	hear(t, p, put(t, q, add("s", "a"), add("s", "b")))
	put(t, p, add("s", "a"), add("t", "a"), add("s", "a"))
	s := begun(t, p)
	// What is put at the place behind at is not seen, so that it is not dropped.
	put(t, p, add("s", "a"))
	mustDo(t, s.Put("s", "a"), s.Drop("s", "a"), s.Drop("s", "c"), s.Drop("s", "b"), s.Drop("u", "a"), s.Drop("s", "a"))
	c, _ := mustCommit(t, s)
	a := []api.Dot{{Place: 0, Time: 1, At: 0}, {Place: 0, Time: 1, At: 2}, {Place: 1, Time: 1, At: 0}}
	want := api.Commit{When: []int{3, 1}, Ops: []api.Op{add("s", "a"), remove("s", "a", a...), remove("s", "c"),
		remove("s", "b", api.Dot{Place: 1, Time: 1, At: 1}), remove("u", "a"), remove("s", "a", a...)}}
	for i := range want.Ops {
		want.Ops[i].At = i
	}
	if !sameCommit(c, want) {
		t.Errorf("commit %+v, want %+v", c, want)
	}
}

// TestP71MoreDotsThanAnOpNames: the first MaxDots go; with one more the text stays, however often it is dropped.
func TestP71MoreDotsThanAnOpNames(t *testing.T) {
	for _, more := range []int{-1, 0, 1, 7} {
		p := newPlace(t, 0, 1, 1)
		var dots []api.Dot
		for len(dots) < api.MaxDots+more {
			at := len(dots) % api.MaxOps
			if at == 0 {
				put(t, p, slices.Repeat([]api.Op{add("s", "a")}, min(api.MaxOps, api.MaxDots+more-len(dots)))...)
			}
			dots = append(dots, api.Dot{Time: p.Clock(), At: at})
		}
		put(t, p, add("s", "b"))
		want := isSet("b")
		if more > 0 {
			want = isSet("a", "b")
		}
		s := begun(t, p)
		mustDo(t, s.Drop("s", "a"), s.Drop("s", "a"))
		wantRead(t, fmt.Sprint(more, " more"), s, "s", want)
		c, _ := mustCommit(t, s)
		for _, o := range c.Ops {
			if first := dots[:min(len(dots), api.MaxDots)]; !slices.Equal(o.Dots, first) {
				t.Errorf("%d more: dots %v, want %v", more, o.Dots, first)
			}
		}
		mustBegin(t, s, p)
		wantRead(t, fmt.Sprint(more, " more, committed"), s, "s", want)
		mustDo(t, s.Drop("s", "a"))
		wantRead(t, fmt.Sprint(more, " more, the rest"), s, "s", isSet("b"))
	}
}

// wantNone of all that asks for a transaction.
func wantNone(t *testing.T, name string, s *session.Session) {
	t.Helper()
	long := strings.Repeat("x", api.MaxText+1)
	for _, key := range []string{"k", "K", ""} {
		v, read := s.Read(key)
		c, l, commit := s.Commit()
		if !sameValue(v, api.Value{}) || !sameCommit(c, api.Commit{}) || len(l) != 0 {
			t.Errorf("%s: none is open: %v, %v, %v", name, v, c, l)
		}
		for i, err := range []error{read, commit, s.Set(key, long), s.Add(key, math.MaxInt), s.Put(key, long), s.Drop(key, long), s.Abort()} {
			if err != api.ErrNone {
				t.Errorf("%s: none is open: %d: %v", name, i, err)
			}
		}
	}
	wantOpen(t, name, s, false)
}

func TestP71NoneIsOpen(t *testing.T) {
	p := newPlace(t, 0, 1, 1)
	s := newSession(t, 1)
	wantNone(t, "new", s)
	mustBegin(t, s, p)
	mustCommit(t, s)
	wantNone(t, "committed", s)
	mustBegin(t, s, p)
	mustDo(t, s.Set("k", "x"))
	mustCommit(t, s)
	wantNone(t, "committed with an op", s)
	mustBegin(t, s, p)
	mustDo(t, s.Set("k", "y"), s.Abort())
	wantNone(t, "aborted", s)
	mustBegin(t, s, p)
	wantRead(t, "what was aborted is not seen", s, "k", isRegister("x"))
}

func TestP71Wrong(t *testing.T) {
	p := newPlace(t, 0, 1, 1)
	put(t, p, add("s", "a"))
	s := begun(t, p)
	text, long := strings.Repeat("x", api.MaxText), strings.Repeat("x", api.MaxText+1)
	for _, key := range []string{"", "K", "a b", strings.Repeat("k", api.MaxName+1), "\xff"} {
		if v, err := s.Read(key); !sameValue(v, api.Value{}) || err != api.ErrName {
			t.Errorf("Read(%q) = %v, %v", key, v, err)
		}
		for i, err := range []error{s.Set(key, long), s.Add(key, math.MaxInt), s.Put(key, long), s.Drop(key, long), s.Drop(key, "")} {
			if err != api.ErrName {
				t.Errorf("%d: %q: %v, want ErrName", i, key, err)
			}
		}
	}
	for i, err := range []error{s.Set("r", long), s.Put("s", long), s.Drop("s", long),
		s.Add("n", api.MaxTime+1), s.Add("n", -api.MaxTime-1), s.Add("n", math.MinInt), s.Add("n", math.MaxInt)} {
		if err != api.ErrBound {
			t.Errorf("%d: %v, want ErrBound", i, err)
		}
	}
	// What was refused is none of the ops.
	wantRead(t, "refused", s, "r", api.Value{})
	wantRead(t, "refused", s, "n", api.Value{})
	wantRead(t, "refused", s, "s", isSet("a"))
	mustDo(t, s.Set("r", text), s.Put("s", text), s.Drop("s", text), s.Add("n", api.MaxTime), s.Add("m", -api.MaxTime))
	if c, _ := mustCommit(t, s); len(c.Ops) != 5 || c.Ops[0].At != 0 || c.Ops[4].At != 4 {
		t.Errorf("commit %+v", c)
	}
}

func TestP71Full(t *testing.T) {
	s := begun(t, newPlace(t, 0, 1, 1))
	for range api.MaxOps {
		mustDo(t, s.Add("n", 1))
	}
	for i, err := range []error{s.Add("n", 1), s.Add("K", 1), s.Add("n", math.MaxInt), s.Set("r", ""), s.Put("s", ""), s.Drop("s", ""), s.Drop("", "")} {
		if err != api.ErrFull {
			t.Errorf("%d: %v, want ErrFull", i, err)
		}
	}
	wantRead(t, "full", s, "n", isCounter(api.MaxOps))
	wantRead(t, "full", s, "s", api.Value{})
	if c, l := mustCommit(t, s); len(c.Ops) != api.MaxOps || c.Ops[api.MaxOps-1].At != api.MaxOps-1 || len(l) != 0 {
		t.Errorf("commit %+v, %v", c, l)
	}
}

// TestP71Old: a place that is pruned beyond at does not tell what was at at.
func TestP71Old(t *testing.T) {
	p := newPlace(t, 0, 1, 1)
	put(t, p, add("s", "a"))
	s := begun(t, p)
	put(t, p, add("s", "b"))
	if err := p.Prune(p.Snapshot()); err != nil {
		t.Fatal(err)
	}
	for _, key := range []string{"s", "z"} {
		if v, err := s.Read(key); !sameValue(v, api.Value{}) || err != api.ErrOld {
			t.Errorf("Read(%q) = %v, %v, want ErrOld", key, v, err)
		}
		if err := s.Drop(key, "a"); err != api.ErrOld {
			t.Errorf("Drop(%q) = %v, want ErrOld", key, err)
		}
	}
	if err := s.Drop("K", "a"); err != api.ErrName {
		t.Errorf("Drop = %v, want ErrName", err)
	}
	if _, err := s.Read("K"); err != api.ErrName {
		t.Errorf("Read = %v, want ErrName", err)
	}
	// Other ops ask nothing of the place, and it takes them.
	mustDo(t, s.Put("s", "c"), s.Set("r", "x"), s.Add("n", 1))
	if c, _ := mustCommit(t, s); !slices.Equal(c.When, []int{3}) || len(c.Ops) != 3 {
		t.Errorf("commit %+v", c)
	}
	mustBegin(t, s, p)
	wantRead(t, "a new at", s, "s", isSet("a", "b", "c"))
}

func TestP72Commit(t *testing.T) {
	p, same := newPlace(t, 1, 3, 2), newPlace(t, 1, 3, 2)
	beat := wire.Message{From: 2, To: 1, Seq: 1, Time: 4, Beat: true}
	for shard := range 2 {
		beat.Shard = shard
		hear(t, p, []wire.Message{beat})
		hear(t, same, []wire.Message{beat})
	}
	s := begun(t, p)
	put(t, p, counter("n", 1))
	put(t, same, counter("n", 1))
	mustDo(t, s.Set("a", "x"), s.Add("b", 2), s.Put("c", "y"), s.Put("a", "z"))
	c, l := mustCommit(t, s)
	ops := []api.Op{register("a", "x"), counter("b", 2), add("c", "y"), add("a", "z")}
	want, sent, err := same.Commit([]int{0, 0, 4}, ops)
	if err != nil || !sameCommit(c, want) || !slices.Equal(c.When, []int{0, 2, 4}) || c.Place != 1 {
		t.Errorf("commit %+v, want %+v, %v", c, want, err)
	}
	if !slices.EqualFunc(l, sent, sameMessage) || len(l) < 2 {
		t.Errorf("messages %+v, want %+v", l, sent)
	}
	wantToken(t, "the token is When", s, 0, 2, 4)
	wantOpen(t, "committed", s, false)
	if p.Clock() != 2 {
		t.Errorf("clock %d", p.Clock())
	}
	mustBegin(t, s, p)
	wantRead(t, "the next one", s, "b", isCounter(2))
	wantRead(t, "the next one has no ops", s, "n", isCounter(1))
}

func sameMessage(a, b wire.Message) bool {
	if !sameCommit(a.C, b.C) {
		return false
	}
	a.C, b.C = api.Commit{}, api.Commit{}
	return reflect.DeepEqual(a, b)
}

func TestP72WithoutOps(t *testing.T) {
	for id := range 3 {
		p := newPlace(t, id, 3, 2)
		put(t, p, counter("n", 1))
		at := p.Snapshot()
		s := begun(t, p)
		put(t, p, counter("n", 1))
		wantRead(t, "read", s, "n", isCounter(1))
		again := len(p.Again())
		c, l := mustCommit(t, s)
		if !sameCommit(c, api.Commit{When: at, Place: id}) || len(l) != 0 {
			t.Errorf("place %d: %+v, %+v", id, c, l)
		}
		wantToken(t, "without ops", s, at...)
		wantOpen(t, "without ops", s, false)
		if p.Clock() != 2 || len(p.Again()) != again {
			t.Errorf("place %d: clock %d", id, p.Clock())
		}
	}
}

func TestP72Abort(t *testing.T) {
	p := newPlace(t, 0, 2, 1)
	put(t, p, counter("n", 1))
	s := begun(t, p)
	mustDo(t, s.Add("n", 1), s.Abort())
	wantToken(t, "aborted", s, 1, 0)
	wantOpen(t, "aborted", s, false)
	if p.Clock() != 1 || len(p.Again()) != 1 {
		t.Errorf("clock %d, again %v", p.Clock(), p.Again())
	}
	mustBegin(t, s, p)
	wantRead(t, "aborted", s, "n", isCounter(1))
	if c, l := mustCommit(t, s); len(c.Ops) != 0 || len(l) != 0 {
		t.Errorf("the aborted ops are committed: %v, %v", c, l)
	}
}

// TestP72Two sessions at one place do not see each other's ops till they are committed.
func TestP72Two(t *testing.T) {
	p := newPlace(t, 0, 1, 1)
	a, b := begun(t, p), begun(t, p)
	mustDo(t, a.Add("n", 1), b.Add("n", 10))
	wantRead(t, "a", a, "n", isCounter(1))
	wantRead(t, "b", b, "n", isCounter(10))
	mustCommit(t, a)
	wantRead(t, "b at its at", b, "n", isCounter(10))
	mustCommit(t, b)
	wantToken(t, "a", a, 1)
	wantToken(t, "b", b, 2)
	mustBegin(t, a, p)
	wantRead(t, "both", a, "n", isCounter(11))
}
