package stream_test

import (
	"fmt"
	"math"
	"math/rand"
	"reflect"
	"testing"

	"causeway/api"
	"causeway/stream"
	"causeway/wire"
)

const (
	from  = 1
	to    = 0
	shard = 2
)

func sender(t *testing.T) *stream.Sender {
	t.Helper()
	s, err := stream.NewSender(from, to, shard)
	if err != nil || s == nil {
		t.Fatalf("NewSender = %v, %v", s, err)
	}
	return s
}

func receiver(t *testing.T) *stream.Receiver {
	t.Helper()
	r, err := stream.NewReceiver(from, to, shard)
	if err != nil || r == nil {
		t.Fatalf("NewReceiver = %v, %v", r, err)
	}
	return r
}

// commit of place 1 at a time of it, whose op tells the time.
func commit(time int) api.Commit {
	return api.Commit{When: []int{7, time, 3}, Place: from, Ops: []api.Op{{At: 2, Key: "k", Kind: api.Counter, N: time}}}
}

// removal is a commit with a list at each depth.
func removal(time int) api.Commit {
	c := commit(time)
	c.Ops = append(c.Ops, api.Op{At: 5, Key: "s", Kind: api.Set, Text: "x", Remove: true, Dots: []api.Dot{{Place: 0, Time: 4, At: 1}, {Place: 2, Time: 1, At: 0}}})
	return c
}

func sent(seq, time int, c api.Commit) wire.Message {
	return wire.Message{From: from, To: to, Shard: shard, Seq: seq, Time: time, C: c}
}

func beat(seq, time int) wire.Message {
	return wire.Message{From: from, To: to, Shard: shard, Seq: seq, Time: time, Beat: true}
}

// numbered is a message whose commit and time tell its number.
func numbered(seq int) wire.Message {
	return sent(seq, 10*seq, removal(10*seq))
}

// plainly: a nil list and an empty one are one thing.
func plainly(m wire.Message) wire.Message {
	m = wire.Copy(m)
	if len(m.C.When) == 0 {
		m.C.When = nil
	}
	if len(m.C.Ops) == 0 {
		m.C.Ops = nil
	}
	for i := range m.C.Ops {
		if len(m.C.Ops[i].Dots) == 0 {
			m.C.Ops[i].Dots = nil
		}
	}
	return m
}

func same(a, b wire.Message) bool {
	return reflect.DeepEqual(plainly(a), plainly(b))
}

func wantMessage(t *testing.T, name string, got wire.Message, err error, want wire.Message) {
	t.Helper()
	if err != nil || !same(got, want) {
		t.Errorf("%s: %+v, %v, want %+v", name, got, err, want)
	}
}

func wantMessages(t *testing.T, name string, got []wire.Message, want ...wire.Message) {
	t.Helper()
	if len(got) != len(want) {
		t.Errorf("%s: %d messages, want %d: %+v", name, len(got), len(want), got)
		return
	}
	for i := range got {
		wantMessage(t, fmt.Sprint(name, ", message ", i), got[i], nil, want[i])
	}
}

// wantRefused: bare if at is below 0, else within a fault that wraps no other one.
func wantRefused(t *testing.T, name string, m wire.Message, err error, at int, want error) {
	t.Helper()
	if !same(m, wire.Message{}) {
		t.Errorf("%s: %+v beside an error", name, m)
	}
	if at < 0 {
		if err != want {
			t.Errorf("%s: %v, want %v, bare", name, err, want)
		}
		return
	}
	if f, ok := err.(*api.Fault); !ok || f.At != at || f.Err != want {
		t.Errorf("%s: %#v, want %v at %d", name, err, want, at)
	}
}

func wantHeard(t *testing.T, r *stream.Receiver, m wire.Message, want ...wire.Message) {
	t.Helper()
	got, err := r.Hear(m)
	if err != nil {
		t.Errorf("Hear of %d: %v", m.Seq, err)
	}
	wantMessages(t, fmt.Sprint("Hear of ", m.Seq), got, want...)
}

func wantDeaf(t *testing.T, name string, r *stream.Receiver, m wire.Message, want error) {
	t.Helper()
	if got, err := r.Hear(m); len(got) != 0 || err != want {
		t.Errorf("%s: Hear = %+v, %v, want %v, bare", name, got, err, want)
	}
}

func wantAt(t *testing.T, name string, r *stream.Receiver, seq, time int) {
	t.Helper()
	if r.Seq() != seq || r.Time() != time {
		t.Errorf("%s: Seq %d, Time %d, want %d, %d", name, r.Seq(), r.Time(), seq, time)
	}
}

func wantEnds(t *testing.T, from, to, shard int, want error) {
	t.Helper()
	s, err := stream.NewSender(from, to, shard)
	if err != want || (s == nil) != (want != nil) {
		t.Errorf("NewSender(%d, %d, %d) = %v, %v, want %v", from, to, shard, s, err, want)
	}
	r, err := stream.NewReceiver(from, to, shard)
	if err != want || (r == nil) != (want != nil) {
		t.Errorf("NewReceiver(%d, %d, %d) = %v, %v, want %v", from, to, shard, r, err, want)
	}
}

func TestP50P51New(t *testing.T) {
	isOne := func(n, most int) bool { return n >= 0 && n < most }
	for from := -2; from < api.MaxPlaces+2; from++ {
		for to := -2; to < api.MaxPlaces+2; to++ {
			for shard := -2; shard < api.MaxShards+2; shard++ {
				var want error
				if from == to {
					want = api.ErrShape
				}
				if !isOne(from, api.MaxPlaces) || !isOne(to, api.MaxPlaces) || !isOne(shard, api.MaxShards) {
					want = api.ErrBound
				}
				wantEnds(t, from, to, shard, want)
			}
		}
	}
	for _, n := range []int{math.MinInt, math.MaxInt} {
		wantEnds(t, n, 0, 0, api.ErrBound)
		wantEnds(t, 0, n, 0, api.ErrBound)
		wantEnds(t, 0, 1, n, api.ErrBound)
		wantEnds(t, n, n, n, api.ErrBound)
	}
}

func TestP50CommitsAndBeats(t *testing.T) {
	s := sender(t)
	m, err := s.Commit(commit(3))
	wantMessage(t, "the first", m, err, sent(1, 3, commit(3)))
	m, err = s.Commit(removal(4))
	wantMessage(t, "the second", m, err, sent(2, 4, removal(4)))
	m, err = s.Beat(4)
	wantMessage(t, "a beat of the same time", m, err, beat(3, 4))
	m, err = s.Beat(4)
	wantMessage(t, "a beat again", m, err, beat(4, 4))
	m, err = s.Beat(9)
	wantMessage(t, "a later beat", m, err, beat(5, 9))
	m, err = s.Commit(commit(10))
	wantMessage(t, "a commit behind it", m, err, sent(6, 10, commit(10)))
	m, err = s.Beat(api.MaxTime)
	wantMessage(t, "the last time", m, err, beat(7, api.MaxTime))
	m, err = s.Beat(api.MaxTime)
	wantMessage(t, "the last time again", m, err, beat(8, api.MaxTime))
	_, err = s.Commit(commit(api.MaxTime))
	wantRefused(t, "no time is left", wire.Message{}, err, -1, api.ErrOld)
}

func TestP50FirstTimes(t *testing.T) {
	s := sender(t)
	m, err := s.Beat(0)
	wantMessage(t, "a beat at 0", m, err, beat(1, 0))
	m, err = s.Commit(commit(1))
	wantMessage(t, "a commit at 1", m, err, sent(2, 1, commit(1)))
	m, err = sender(t).Commit(commit(api.MaxTime))
	wantMessage(t, "a commit at the last time", m, err, sent(1, api.MaxTime, commit(api.MaxTime)))
}

// Time is that of the sender's place, whatever the other times are.
func TestP50TimeOfFrom(t *testing.T) {
	for place := range api.MaxPlaces {
		s, err := stream.NewSender(place, (place+1)%api.MaxPlaces, 5)
		if err != nil {
			t.Fatal(err)
		}
		c := api.Commit{When: []int{11, 12, 13, 14, 15, 16}, Place: place, Ops: commit(1).Ops}
		m, err := s.Commit(c)
		wantMessage(t, "a commit", m, err, wire.Message{From: place, To: (place + 1) % api.MaxPlaces, Shard: 5, Seq: 1, Time: 11 + place, C: c})
		c.When = []int{99, 99, 99, 99, 99, 99}
		c.When[place] = 11 + place
		_, err = s.Commit(c)
		wantRefused(t, "a commit of the same time", wire.Message{}, err, -1, api.ErrOld)
	}
}

func TestP50Refuses(t *testing.T) {
	with := func(change func(c *api.Commit)) api.Commit {
		c := removal(20)
		change(&c)
		return c
	}
	for _, c := range []struct {
		name string
		c    api.Commit
		at   int
		want error
	}{
		{"nothing", api.Commit{}, -1, api.ErrShape},
		{"no times", with(func(c *api.Commit) { c.When = nil }), -1, api.ErrShape},
		{"too many times", with(func(c *api.Commit) { c.When = make([]int, api.MaxPlaces+1) }), -1, api.ErrShape},
		{"a time below 0", with(func(c *api.Commit) { c.When[0] = -1 }), -1, api.ErrBound},
		{"a time too great", with(func(c *api.Commit) { c.When[1] = api.MaxTime + 1 }), -1, api.ErrBound},
		{"place below 0", with(func(c *api.Commit) { c.Place = -1 }), -1, api.ErrBound},
		{"place beyond", with(func(c *api.Commit) { c.Place = 3 }), -1, api.ErrBound},
		{"its time is 0", with(func(c *api.Commit) { c.When[1] = 0 }), -1, api.ErrBound},
		{"no ops", with(func(c *api.Commit) { c.Ops = nil }), -1, api.ErrShape},
		{"too many ops", with(func(c *api.Commit) { c.Ops = make([]api.Op, api.MaxOps+1) }), -1, api.ErrBound},
		{"no name", with(func(c *api.Commit) { c.Ops[1].Key = "K" }), 1, api.ErrName},
		{"no kind", with(func(c *api.Commit) { c.Ops[0].Kind = 4 }), 0, api.ErrKind},
		{"a field of another kind", with(func(c *api.Commit) { c.Ops[0].Text = "x" }), 0, api.ErrShape},
		{"a dot beyond", with(func(c *api.Commit) { c.Ops[1].Dots[0].Place = 3 }), 1, api.ErrBound},
		{"not rising", with(func(c *api.Commit) { c.Ops[1].At = 2 }), 1, api.ErrShape},
		{"of another place", with(func(c *api.Commit) { c.Place = 0 }), -1, api.ErrShape},
		{"of the other end", with(func(c *api.Commit) { c.Place = 2 }), -1, api.ErrShape},
		{"of a world without from", api.Commit{When: []int{20}, Place: 0, Ops: commit(1).Ops}, -1, api.ErrShape},
		{"as late as the last", with(func(c *api.Commit) { c.When[1] = 9 }), -1, api.ErrOld},
		{"earlier than the last", with(func(c *api.Commit) { c.When[1] = 1 }), -1, api.ErrOld},
		{"no name, of another place", with(func(c *api.Commit) { c.Place, c.Ops[0].Key = 0, "" }), 0, api.ErrName},
		{"no name, and early", with(func(c *api.Commit) { c.When[1], c.Ops[0].Key = 1, "" }), 0, api.ErrName},
		{"of another place, and early", with(func(c *api.Commit) { c.When[1], c.When[0], c.Place = 1, 1, 0 }), -1, api.ErrShape},
	} {
		s := sender(t)
		s.Commit(commit(8))
		s.Beat(9)
		m, err := s.Commit(c.c)
		wantRefused(t, c.name, m, err, c.at, c.want)
		wantMessages(t, c.name+": kept", s.Again(), sent(1, 8, commit(8)), beat(2, 9))
		m, err = s.Commit(commit(10))
		wantMessage(t, c.name+": the next one", m, err, sent(3, 10, commit(10)))
	}
}

func TestP50BeatRefuses(t *testing.T) {
	for _, c := range []struct {
		time int
		want error
	}{
		{math.MinInt, api.ErrBound}, {-1, api.ErrBound}, {api.MaxTime + 1, api.ErrBound}, {math.MaxInt, api.ErrBound},
		{0, api.ErrOld}, {1, api.ErrOld}, {8, api.ErrOld},
	} {
		for _, last := range []func(s *stream.Sender) (wire.Message, error){
			func(s *stream.Sender) (wire.Message, error) { return s.Commit(commit(9)) },
			func(s *stream.Sender) (wire.Message, error) { return s.Beat(9) },
		} {
			s := sender(t)
			first, err := last(s)
			if err != nil {
				t.Fatal(err)
			}
			m, err := s.Beat(c.time)
			wantRefused(t, fmt.Sprint("Beat ", c.time), m, err, -1, c.want)
			wantMessages(t, "kept", s.Again(), first)
			m, err = s.Beat(9)
			wantMessage(t, "the next one", m, err, beat(2, 9))
		}
	}
}

func TestP50Acked(t *testing.T) {
	s := sender(t)
	wantMessages(t, "at first", s.Again())
	for _, seq := range []int{math.MinInt, -1, 1, math.MaxInt} {
		if err := s.Acked(seq); err != api.ErrBound {
			t.Errorf("Acked(%d) of nothing: %v", seq, err)
		}
	}
	var l []wire.Message
	for i := 1; i <= 5; i++ {
		m, err := s.Commit(removal(10 * i))
		wantMessage(t, "a commit", m, err, numbered(i))
		l = append(l, m)
	}
	for _, c := range []struct {
		seq  int
		err  error
		left int // the first that is not acked
	}{
		{0, nil, 1}, {-1, api.ErrBound, 1}, {6, api.ErrBound, 1}, {math.MaxInt, api.ErrBound, 1}, {math.MinInt, api.ErrBound, 1},
		{1, nil, 2}, {1, nil, 2}, {0, nil, 2}, {3, nil, 4}, {2, nil, 4}, {6, api.ErrBound, 4}, {0, nil, 4}, {5, nil, 6}, {5, nil, 6}, {4, nil, 6}, {6, api.ErrBound, 6},
	} {
		if err := s.Acked(c.seq); err != c.err {
			t.Errorf("Acked(%d) = %v, want %v", c.seq, err, c.err)
		}
		wantMessages(t, fmt.Sprint("behind Acked ", c.seq), s.Again(), l[c.left-1:]...)
		wantMessages(t, "and again", s.Again(), l[c.left-1:]...)
	}
	m, err := s.Beat(50)
	wantMessage(t, "behind all acks", m, err, beat(6, 50))
	wantMessages(t, "the new one", s.Again(), beat(6, 50))
	_, err = s.Commit(commit(50))
	wantRefused(t, "acks do not turn time back", wire.Message{}, err, -1, api.ErrOld)
	if err := s.Acked(6); err != nil || len(s.Again()) != 0 {
		t.Errorf("Acked(6) = %v, left %v", err, s.Again())
	}
}

func TestP50AgainFirst(t *testing.T) {
	s := sender(t)
	wantMessages(t, "at first", s.AgainFirst(3))
	var l []wire.Message
	for i := 1; i <= 5; i++ {
		m, err := s.Commit(removal(10 * i))
		wantMessage(t, "a commit", m, err, numbered(i))
		l = append(l, m)
	}
	for _, n := range []int{math.MinInt, -1, 0, 1, 2, 4, 5, 6, math.MaxInt} {
		want := l[:min(max(n, 0), 5)]
		wantMessages(t, fmt.Sprint("the first ", n), s.AgainFirst(n), want...)
		for _, m := range s.AgainFirst(n) {
			m.C.When[0], m.C.Ops[0].Key = 77, "spoiled"
		}
	}
	if err := s.Acked(3); err != nil {
		t.Fatal(err)
	}
	wantMessages(t, "the first that is not acked", s.AgainFirst(1), l[3])
	s, _ = stream.NewSender(0, 0, 0)
	wantMessages(t, "nil", s.AgainFirst(1))
}

func TestP51OneByOne(t *testing.T) {
	r := receiver(t)
	wantAt(t, "at first", r, 0, 0)
	for i := 1; i <= 3*api.MaxFlying; i++ {
		wantHeard(t, r, numbered(i), numbered(i))
		wantAt(t, "behind it", r, i, 10*i)
	}
}

func TestP51Gaps(t *testing.T) {
	r := receiver(t)
	wantHeard(t, r, numbered(2))
	wantHeard(t, r, numbered(5))
	wantHeard(t, r, numbered(3))
	wantAt(t, "all are ahead", r, 0, 0)
	wantHeard(t, r, numbered(5))
	wantHeard(t, r, numbered(1), numbered(1), numbered(2), numbered(3))
	wantAt(t, "up to the gap", r, 3, 30)
	for i := 1; i <= 3; i++ {
		wantHeard(t, r, numbered(i))
	}
	wantHeard(t, r, numbered(5))
	wantAt(t, "nothing new", r, 3, 30)
	wantHeard(t, r, numbered(4), numbered(4), numbered(5))
	wantAt(t, "all", r, 5, 50)
	wantHeard(t, r, numbered(5))
}

// Of what comes twice the first one counts, whatever the second one says.
func TestP51FirstCounts(t *testing.T) {
	r := receiver(t)
	other := func(seq int) wire.Message { return beat(seq, 7) }
	wantHeard(t, r, numbered(2))
	wantHeard(t, r, other(2))
	wantHeard(t, r, numbered(1), numbered(1), numbered(2))
	wantHeard(t, r, other(1))
	wantHeard(t, r, other(2))
	wantAt(t, "the first ones", r, 2, 20)
}

// Time is that of the last one, also where it is less than those ahead.
func TestP51Time(t *testing.T) {
	r := receiver(t)
	wantHeard(t, r, beat(1, api.MaxTime), beat(1, api.MaxTime))
	wantAt(t, "the last time", r, 1, api.MaxTime)
	wantHeard(t, r, beat(3, 5))
	wantAt(t, "what is kept does not count", r, 1, api.MaxTime)
	wantHeard(t, r, beat(2, 8), beat(2, 8), beat(3, 5))
	wantAt(t, "less", r, 3, 5)
	wantHeard(t, r, beat(4, 0), beat(4, 0))
	wantAt(t, "0", r, 4, 0)
}

// What a message says of a commit is not looked at.
func TestP51AnyCommit(t *testing.T) {
	r := receiver(t)
	for i, c := range []api.Commit{
		{},
		{When: []int{-1}, Place: 99},
		{When: make([]int, 100), Ops: make([]api.Op, 100)},
		{Place: math.MinInt, Ops: []api.Op{{At: -1, Key: "?", Dots: []api.Dot{{Place: -1}}}}},
		commit(1),
	} {
		m := sent(i+1, 6, c)
		wantHeard(t, r, m, m)
		wantAt(t, "behind it", r, i+1, 6)
	}
	m := beat(6, 6)
	m.C = removal(3)
	wantHeard(t, r, m, m)
}

func TestP51Refuses(t *testing.T) {
	with := func(change func(m *wire.Message)) wire.Message {
		m := numbered(4)
		change(&m)
		return m
	}
	for _, c := range []struct {
		name string
		m    wire.Message
		want error
	}{
		{"another From", with(func(m *wire.Message) { m.From = 2 }), api.ErrShape},
		{"From below 0", with(func(m *wire.Message) { m.From = math.MinInt }), api.ErrShape},
		{"another To", with(func(m *wire.Message) { m.To = 3 }), api.ErrShape},
		{"To beyond", with(func(m *wire.Message) { m.To = math.MaxInt }), api.ErrShape},
		{"another Shard", with(func(m *wire.Message) { m.Shard = 0 }), api.ErrShape},
		{"the way back", with(func(m *wire.Message) { m.From, m.To = to, from }), api.ErrShape},
		{"nothing", wire.Message{}, api.ErrShape},
		{"Seq 0", with(func(m *wire.Message) { m.Seq = 0 }), api.ErrBound},
		{"Seq -1", with(func(m *wire.Message) { m.Seq = -1 }), api.ErrBound},
		{"Seq far below", with(func(m *wire.Message) { m.Seq = math.MinInt }), api.ErrBound},
		{"Time -1", with(func(m *wire.Message) { m.Time = -1 }), api.ErrBound},
		{"Time far below", with(func(m *wire.Message) { m.Time = math.MinInt }), api.ErrBound},
		{"Time beyond", with(func(m *wire.Message) { m.Time = api.MaxTime + 1 }), api.ErrBound},
		{"Time far beyond", with(func(m *wire.Message) { m.Time = math.MaxInt }), api.ErrBound},
		{"a beat with Time -1", beat(4, -1), api.ErrBound},
		{"ahead by one too many", numbered(3 + api.MaxFlying + 1), api.ErrFull},
		{"ahead by far", sent(math.MaxInt, 1, commit(1)), api.ErrFull},
		{"another Shard, Seq 0", with(func(m *wire.Message) { m.Shard, m.Seq = 1, 0 }), api.ErrShape},
		{"another Shard, Time -1", with(func(m *wire.Message) { m.Shard, m.Time = 1, -1 }), api.ErrShape},
		{"another Shard, come already", with(func(m *wire.Message) { m.Shard, m.Seq = 1, 1 }), api.ErrShape},
		{"another Shard, ahead by far", with(func(m *wire.Message) { m.Shard, m.Seq = 1, math.MaxInt }), api.ErrShape},
		{"Time -1, come already", with(func(m *wire.Message) { m.Time, m.Seq = -1, 1 }), api.ErrBound},
		{"Time -1, kept already", with(func(m *wire.Message) { m.Time, m.Seq = -1, 5 }), api.ErrBound},
		{"Time -1, ahead by far", with(func(m *wire.Message) { m.Time, m.Seq = -1, math.MaxInt }), api.ErrBound},
	} {
		r := receiver(t)
		wantHeard(t, r, numbered(1), numbered(1))
		wantHeard(t, r, numbered(2), numbered(2))
		wantHeard(t, r, numbered(5))
		wantDeaf(t, c.name, r, c.m, c.want)
		wantAt(t, c.name, r, 2, 20)
		wantHeard(t, r, numbered(3), numbered(3))
		wantHeard(t, r, numbered(4), numbered(4), numbered(5))
		wantAt(t, c.name+", at the end", r, 5, 50)
	}
}

func TestP51Full(t *testing.T) {
	r := receiver(t)
	last := 1 + api.MaxFlying
	wantDeaf(t, "one too many ahead", r, numbered(last+1), api.ErrFull)
	for seq := last; seq > 1; seq-- {
		wantHeard(t, r, numbered(seq))
		wantDeaf(t, "as many as may be are kept", r, numbered(last+1), api.ErrFull)
	}
	var all []wire.Message
	for seq := 1; seq <= last; seq++ {
		all = append(all, numbered(seq))
	}
	wantHeard(t, r, numbered(1), all...)
	wantAt(t, "all", r, last, 10*last)
	wantDeaf(t, "one too many ahead of the new next one", r, numbered(last+2+api.MaxFlying), api.ErrFull)
	wantHeard(t, r, numbered(last+1+api.MaxFlying))
	// What was refused was not kept: it comes now, once.
	wantHeard(t, r, numbered(last+1), numbered(last+1))
	wantHeard(t, r, numbered(last+1))
}

// record is what a sender gave, by hand: number i is at i - 1.
func record(t *testing.T, s *stream.Sender, r *rand.Rand, n int) []wire.Message {
	t.Helper()
	var l []wire.Message
	time := 0
	for seq := 1; seq <= n; seq++ {
		var m, want wire.Message
		var err error
		if r.Intn(3) == 0 {
			time += r.Intn(2)
			m, err = s.Beat(time)
			want = beat(seq, time)
		} else {
			time += 1 + r.Intn(3)
			m, err = s.Commit(removal(time))
			want = sent(seq, time, removal(time))
		}
		wantMessage(t, "sent", m, err, want)
		l = append(l, want)
	}
	return l
}

func TestP52AnyOrder(t *testing.T) {
	random := rand.New(rand.NewSource(52))
	for range 200 {
		all := record(t, sender(t), random, 1+random.Intn(api.MaxFlying+1))
		var order []int
		for i := range all {
			for range 1 + random.Intn(3) {
				order = append(order, i)
			}
		}
		random.Shuffle(len(order), func(i, j int) { order[i], order[j] = order[j], order[i] })
		r := receiver(t)
		heard := map[int]bool{}
		var came []wire.Message
		for _, i := range order {
			l, err := r.Hear(all[i])
			if err != nil {
				t.Fatalf("Hear of %d: %v", i+1, err)
			}
			came = append(came, l...)
			heard[i] = true
			want := 0
			for heard[want] {
				want++
			}
			if len(came) != want || r.Seq() != want || want > 0 && r.Time() != all[want-1].Time {
				t.Fatalf("%d have come, Seq %d, Time %d, want %d", len(came), r.Seq(), r.Time(), want)
			}
		}
		wantMessages(t, "any order", came, all...)
	}
}

// losing is a wire on which messages are lost, doubled and turned around.
func losing(random *rand.Rand, l []wire.Message) []wire.Message {
	var out []wire.Message
	for _, m := range l {
		for range random.Intn(3) {
			out = append(out, m)
		}
	}
	random.Shuffle(len(out), func(i, j int) { out[i], out[j] = out[j], out[i] })
	return out
}

func TestP52LostAndSentAgain(t *testing.T) {
	random := rand.New(rand.NewSource(53))
	for range 30 {
		s, r := sender(t), receiver(t)
		all := record(t, s, random, 1+random.Intn(3*api.MaxFlying))
		var came []wire.Message
		for round := 0; len(s.Again()) > 0; round++ {
			if round > 10000 {
				t.Fatal("it does not end")
			}
			for _, m := range losing(random, s.Again()) {
				l, err := r.Hear(m)
				if err != nil && err != api.ErrFull {
					t.Fatal(err)
				}
				if far := m.Seq > r.Seq()+1+api.MaxFlying; far != (err != nil) {
					t.Fatalf("Hear of %d behind %d: %v", m.Seq, r.Seq(), err)
				}
				came = append(came, l...)
			}
			if random.Intn(2) == 0 {
				if err := s.Acked(r.Seq()); err != nil {
					t.Fatal(err)
				}
				wantMessages(t, "left", s.Again(), all[r.Seq():]...)
			}
			if seq := random.Intn(r.Seq() + 1); random.Intn(3) == 0 && s.Acked(seq) != nil {
				t.Fatalf("Acked(%d), late, is refused", seq)
			}
		}
		wantMessages(t, "lost and sent again", came, all...)
	}
}

// Streams that differ in one thing know nothing of each other.
func TestP52StreamsStayApart(t *testing.T) {
	for _, w := range [][3]int{{2, to, shard}, {from, 3, shard}, {from, to, 4}} {
		s, r := sender(t), receiver(t)
		s2, err := stream.NewSender(w[0], w[1], w[2])
		if err != nil {
			t.Fatal(err)
		}
		r2, err := stream.NewReceiver(w[0], w[1], w[2])
		if err != nil {
			t.Fatal(err)
		}
		m, _ := s.Beat(5)
		m2, _ := s2.Beat(3)
		wantMessage(t, "the other one", m2, nil, wire.Message{From: w[0], To: w[1], Shard: w[2], Seq: 1, Time: 3, Beat: true})
		wantDeaf(t, "of the other one", r, m2, api.ErrShape)
		wantDeaf(t, "of the one", r2, m, api.ErrShape)
		wantHeard(t, r, m, m)
		wantHeard(t, r2, m2, m2)
	}
}

// NewSender and NewReceiver answer nil beside an error.
func TestP1NilEnds(t *testing.T) {
	s, _ := stream.NewSender(0, 0, 0)
	r, _ := stream.NewReceiver(0, 0, 0)
	m, err := s.Commit(commit(1))
	wantRefused(t, "Commit", m, err, -1, api.ErrShape)
	m, err = s.Commit(api.Commit{When: []int{-1}})
	wantRefused(t, "Commit of nothing", m, err, -1, api.ErrBound)
	m, err = s.Beat(0)
	wantRefused(t, "Beat", m, err, -1, api.ErrShape)
	m, err = s.Beat(-1)
	wantRefused(t, "Beat below 0", m, err, -1, api.ErrBound)
	if err := s.Acked(1); err != api.ErrBound {
		t.Errorf("Acked = %v", err)
	}
	wantMessages(t, "Again", s.Again())
	wantDeaf(t, "nil", r, wire.Message{Seq: 1}, api.ErrShape)
	wantDeaf(t, "nil", r, numbered(1), api.ErrShape)
	wantAt(t, "nil", r, 0, 0)
}

// What lies behind a list's length is neither read nor written.
func TestP3BehindLists(t *testing.T) {
	given := func() (api.Commit, func()) {
		when := []int{1, 2, 91}
		dots := []api.Dot{{Place: 1, Time: 1}, {Place: 92}}
		ops := []api.Op{{Key: "k", Kind: api.Set, Remove: true, Dots: dots[:1]}, {Key: "behind"}}
		return api.Commit{When: when[:2], Place: 1, Ops: ops[:1]}, func() {
			if when[2] != 91 || dots[1].Place != 92 || ops[1].Key != "behind" {
				t.Error("something behind a list was written")
			}
		}
	}
	scribble := func(m wire.Message) {
		_ = append(m.C.When, 90)
		_ = append(m.C.Ops, api.Op{})
		_ = append(m.C.Ops[0].Dots, api.Dot{})
	}
	c, check := given()
	m, err := sender(t).Commit(c)
	wantMessage(t, "Commit", m, err, sent(1, 2, c))
	scribble(m)
	check()
	c, check = given()
	l, err := receiver(t).Hear(sent(1, 2, c))
	if err != nil {
		t.Fatal(err)
	}
	wantMessages(t, "Hear", l, sent(1, 2, c))
	scribble(l[0])
	check()
}

// spoil writes into every list of a message, and behind it.
func spoil(m wire.Message) {
	for i := range m.C.When {
		m.C.When[i] = -99
	}
	for i := range m.C.Ops {
		for j := range m.C.Ops[i].Dots {
			m.C.Ops[i].Dots[j] = api.Dot{Place: -99}
		}
		_ = append(m.C.Ops[i].Dots, api.Dot{Place: -98})
		m.C.Ops[i] = api.Op{Key: "spoilt"}
	}
	_ = append(m.C.When, -98)
	_ = append(m.C.Ops, api.Op{Key: "behind"})
}

func TestP4SenderKeepsItsOwn(t *testing.T) {
	s := sender(t)
	c := removal(10)
	first, err := s.Commit(c)
	if err != nil || !reflect.DeepEqual(c, removal(10)) {
		t.Fatalf("Commit: %v; it was given %+v then", err, c)
	}
	spoil(wire.Message{C: c})
	wantMessage(t, "what was handed over is not kept", first, nil, numbered(1))
	wantMessages(t, "what was handed over is not kept", s.Again(), numbered(1))
	spoil(first)
	wantMessages(t, "what was answered is not kept", s.Again(), numbered(1))
	s.Commit(removal(20))
	one, two := s.Again(), s.Again()
	spoil(one[0])
	one[1] = wire.Message{}
	wantMessages(t, "Again beside another Again", two, numbered(1), numbered(2))
	wantMessages(t, "Again behind another Again", s.Again(), numbered(1), numbered(2))
	if err := s.Acked(1); err != nil {
		t.Fatal(err)
	}
	wantMessages(t, "an answer behind an ack", two, numbered(1), numbered(2))
	spoil(two[1])
	_ = append(two[:1], beat(9, 9))
	wantMessages(t, "behind an ack", s.Again(), numbered(2))
}

func TestP4ReceiverKeepsItsOwn(t *testing.T) {
	r := receiver(t)
	first, second, third := numbered(1), numbered(2), numbered(3)
	wantHeard(t, r, third)
	wantHeard(t, r, second)
	if !reflect.DeepEqual(second, numbered(2)) {
		t.Errorf("Hear changed what it was given: %+v", second)
	}
	spoil(second)
	spoil(third)
	l, err := r.Hear(first)
	spoil(first)
	if err != nil {
		t.Fatal(err)
	}
	wantMessages(t, "what was handed over is not kept", l, numbered(1), numbered(2), numbered(3))
	wantHeard(t, r, numbered(5))
	spoil(l[2])
	_ = append(l, beat(9, 9))
	wantHeard(t, r, numbered(4), numbered(4), numbered(5))
}

// Lists that the caller lets two ops share are apart in the answer.
func TestP4AnswersShareNothing(t *testing.T) {
	dots := []api.Dot{{Place: 0, Time: 4, At: 1}}
	c := api.Commit{When: []int{1, 2}, Place: 1, Ops: []api.Op{
		{At: 0, Key: "s", Kind: api.Set, Text: "x", Remove: true, Dots: dots},
		{At: 1, Key: "s", Kind: api.Set, Text: "y", Remove: true, Dots: dots},
	}}
	s, r := sender(t), receiver(t)
	m, err := s.Commit(c)
	if err != nil {
		t.Fatal(err)
	}
	heard, err := r.Hear(sent(1, 2, c))
	if err != nil || len(heard) != 1 {
		t.Fatalf("Hear = %v, %v", heard, err)
	}
	for _, m := range []wire.Message{m, s.Again()[0], heard[0]} {
		m.C.Ops[0].Dots[0].Time = 99
		if m.C.Ops[1].Dots[0].Time != 4 || dots[0].Time != 4 {
			t.Errorf("%+v: its lists share memory", m)
		}
	}
}
