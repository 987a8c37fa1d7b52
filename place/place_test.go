package place_test

import (
	"fmt"
	"hash/crc32"
	"math"
	"reflect"
	"slices"
	"strings"
	"testing"

	"causeway/api"
	"causeway/place"
	"causeway/wire"
)

func newPlace(t *testing.T, id, places, shards int) *place.Place {
	t.Helper()
	p, err := place.New(id, places, shards)
	if err != nil || p == nil {
		t.Fatalf("New(%d, %d, %d) = %v, %v", id, places, shards, p, err)
	}
	return p
}

func register(key, text string) api.Op {
	return api.Op{Key: key, Kind: api.Register, Text: text}
}

func counter(key string, n int) api.Op {
	return api.Op{Key: key, Kind: api.Counter, N: n}
}

func add(key, text string) api.Op {
	return api.Op{Key: key, Kind: api.Set, Text: text}
}

func remove(key, text string, dots ...api.Dot) api.Op {
	return api.Op{Key: key, Kind: api.Set, Text: text, Remove: true, Dots: dots}
}

// numbered ops: At is 0, 1, .. .
func numbered(ops ...api.Op) []api.Op {
	l := slices.Clone(ops)
	for i := range l {
		l[i].At = i
	}
	return l
}

func commit(place int, when []int, ops ...api.Op) api.Commit {
	return api.Commit{When: when, Place: place, Ops: ops}
}

// keysOf so many shards: one key of each, by shard.
func keysOf(t *testing.T, shards int) []string {
	t.Helper()
	keys := make([]string, shards)
	for c := 'a'; c <= 'z'; c++ {
		keys[crc32.ChecksumIEEE([]byte(string(c)))%uint32(shards)] = string(c)
	}
	if slices.Contains(keys, "") {
		t.Fatalf("keys of %d shards: %q", shards, keys)
	}
	return keys
}

func tells(from, to, shard, seq, time int, c api.Commit) wire.Message {
	return wire.Message{From: from, To: to, Shard: shard, Seq: seq, Time: time, C: c}
}

func beats(from, to, shard, seq, time int) wire.Message {
	return wire.Message{From: from, To: to, Shard: shard, Seq: seq, Time: time, Beat: true}
}

func ack(from, to, shard, seq int) wire.Message {
	return wire.Message{From: from, To: to, Shard: shard, Seq: seq, Time: -1}
}

// plainly: a nil list and an empty one are one thing.
func plainly(m wire.Message) wire.Message {
	m = wire.Copy(m)
	if len(m.C.When) == 0 {
		m.C.When = nil
	}
	if len(m.C.Ops) == 0 {
		m.C.Ops = nil
	}
	for i := range m.C.Ops {
		if len(m.C.Ops[i].Dots) == 0 {
			m.C.Ops[i].Dots = nil
		}
	}
	return m
}

func same(a, b wire.Message) bool {
	return reflect.DeepEqual(plainly(a), plainly(b))
}

func sameCommit(a, b api.Commit) bool {
	return same(wire.Message{C: a}, wire.Message{C: b})
}

func sameValue(a, b api.Value) bool {
	return a.Kind == b.Kind && a.Text == b.Text && a.N == b.N && slices.Equal(a.Set, b.Set)
}

func wantMessages(t *testing.T, name string, got []wire.Message, want ...wire.Message) {
	t.Helper()
	if len(got) != len(want) {
		t.Errorf("%s: %d messages, want %d: %+v", name, len(got), len(want), got)
		return
	}
	for i := range got {
		if !same(got[i], want[i]) {
			t.Errorf("%s: message %d: %+v, want %+v", name, i, got[i], want[i])
		}
	}
}

// wantError: bare if at is below 0, else within a fault that wraps no other one.
func wantError(t *testing.T, name string, err error, at int, want error) {
	t.Helper()
	if at < 0 {
		if err != want {
			t.Errorf("%s: %v, want %v, bare", name, err, want)
		}
		return
	}
	if f, ok := err.(*api.Fault); !ok || f.At != at || f.Err != want {
		t.Errorf("%s: %#v, want %v at %d", name, err, want, at)
	}
}

func wantSnapshot(t *testing.T, name string, p *place.Place, want ...int) {
	t.Helper()
	if got := p.Snapshot(); !slices.Equal(got, want) {
		t.Errorf("%s: snapshot %v, want %v", name, got, want)
	}
}

func wantRead(t *testing.T, name string, p *place.Place, key string, at []int, want api.Value) {
	t.Helper()
	if got, err := p.Read(key, at); err != nil || !sameValue(got, want) {
		t.Errorf("%s: Read(%q, %v) = %+v, %v, want %+v", name, key, at, got, err, want)
	}
}

// wantCount of a counter at the snapshot; of a key that has no op: 0.
func wantCount(t *testing.T, name string, p *place.Place, key string, want int) {
	t.Helper()
	if got, err := p.Read(key, p.Snapshot()); err != nil || got.N != want {
		t.Errorf("%s: %q is %+v, %v, want %d", name, key, got, err, want)
	}
}

func mustCommit(t *testing.T, p *place.Place, at []int, ops ...api.Op) (api.Commit, []wire.Message) {
	t.Helper()
	c, l, err := p.Commit(at, ops)
	if err != nil {
		t.Fatalf("Commit(%v, %v) = %v", at, ops, err)
	}
	return c, l
}

// mustHear a message of a stream, whose ack must tell this Seq.
func mustHear(t *testing.T, p *place.Place, m wire.Message, seq int) {
	t.Helper()
	l, err := p.Hear(m)
	if err != nil {
		t.Fatalf("Hear(%+v) = %v", m, err)
	}
	wantMessages(t, fmt.Sprintf("ack of %+v", m), l, ack(m.To, m.From, m.Shard, seq))
}

func mustPrune(t *testing.T, p *place.Place, at ...int) {
	t.Helper()
	if err := p.Prune(at); err != nil {
		t.Fatalf("Prune(%v) = %v", at, err)
	}
}

func TestP60New(t *testing.T) {
	isOne := func(n, least, most int) bool { return n >= least && n <= most }
	numbers := []int{math.MinInt, -1, 0, 1, 2, 3, 4, 5, 6, 7, math.MaxInt}
	for _, id := range numbers {
		for _, places := range numbers {
			for _, shards := range numbers {
				if !isOne(places, 1, api.MaxPlaces) || !isOne(shards, 1, api.MaxShards) || !isOne(id, 0, places-1) {
					if p, err := place.New(id, places, shards); p != nil || err != api.ErrBound {
						t.Errorf("New(%d, %d, %d) = %v, %v, want ErrBound", id, places, shards, p, err)
					}
					continue
				}
				p := newPlace(t, id, places, shards)
				wantSnapshot(t, "new", p, make([]int, places)...)
				if p.ID() != id || p.Clock() != 0 || len(p.Again()) != 0 || len(p.Beat()) != (places-1)*shards {
					t.Errorf("New(%d, %d, %d): number %d, clock %d, again %v", id, places, shards, p.ID(), p.Clock(), p.Again())
				}
			}
		}
	}
}

func TestP60Shard(t *testing.T) {
	for _, key := range []string{"a", "b", "k0", "k1", "0", "-", "---", "key-1", "123456789", strings.Repeat("z", api.MaxName)} {
		for shards := 1; shards <= api.MaxShards; shards++ {
			want := int(crc32.ChecksumIEEE([]byte(key)) % uint32(shards))
			if got, err := place.Shard(key, shards); got != want || err != nil {
				t.Errorf("Shard(%q, %d) = %d, %v, want %d", key, shards, got, err, want)
			}
		}
	}
	// 0xCBF43926 is the remainder's well-known answer for these digits.
	if got, err := place.Shard("123456789", 5); got != 0xCBF43926%5 || err != nil {
		t.Errorf("Shard = %d, %v", got, err)
	}
	for _, key := range []string{"", "A", "a b", "a_", "\xff", strings.Repeat("z", api.MaxName+1)} {
		for _, shards := range []int{1, 6, 0, -1, 7} {
			if got, err := place.Shard(key, shards); got != 0 || err != api.ErrName {
				t.Errorf("Shard(%q, %d) = %d, %v, want ErrName", key, shards, got, err)
			}
		}
	}
	for _, shards := range []int{math.MinInt, -1, 0, api.MaxShards + 1, math.MaxInt, 1 << 32} {
		if got, err := place.Shard("a", shards); got != 0 || err != api.ErrBound {
			t.Errorf("Shard(a, %d) = %d, %v, want ErrBound", shards, got, err)
		}
	}
}

func TestP60Snapshot(t *testing.T) {
	p := newPlace(t, 1, 3, 2)
	mustHear(t, p, beats(0, 1, 0, 1, 5), 1)
	wantSnapshot(t, "one stream of two", p, 0, 0, 0)
	mustHear(t, p, beats(0, 1, 1, 1, 3), 1)
	wantSnapshot(t, "the least of both", p, 3, 0, 0)
	mustHear(t, p, beats(2, 1, 1, 1, 9), 1)
	mustHear(t, p, beats(2, 1, 0, 2, 9), 0)
	wantSnapshot(t, "a gap", p, 3, 0, 0)
	mustHear(t, p, beats(2, 1, 0, 1, 8), 2)
	wantSnapshot(t, "no gap", p, 3, 0, 9)
	mustCommit(t, p, []int{3, 0, 9}, counter("a", 1))
	mustCommit(t, p, []int{0, 0, 0}, counter("a", 1))
	wantSnapshot(t, "its own clock", p, 3, 2, 9)
	mustHear(t, p, beats(0, 1, 1, 2, api.MaxTime), 2)
	wantSnapshot(t, "the other stream has not come as far", p, 5, 2, 9)
	mustHear(t, p, beats(0, 1, 0, 2, 4), 2)
	wantSnapshot(t, "a time less than the one ahead", p, 4, 2, 9)
}

func TestP61Commit(t *testing.T) {
	keys := keysOf(t, 3)
	p := newPlace(t, 1, 3, 3)
	for shard := range 3 {
		mustHear(t, p, beats(2, 1, shard, 1, 4), 1)
	}
	drop := remove(keys[0], "x", api.Dot{Place: 2, Time: 4, At: 11}, api.Dot{Place: 0, Time: 1, At: 0})
	ops := []api.Op{counter(keys[2], 3), drop, counter(keys[2], -1), register("z"+keys[0], "")}
	for i, at := range []int{7, -1, api.MaxOps, math.MinInt} {
		ops[i].At = at
	}
	c, l := mustCommit(t, p, []int{0, 0, 3}, ops...)
	want := numbered(ops...)
	if !sameCommit(c, commit(1, []int{0, 1, 3}, want...)) {
		t.Errorf("commit %+v", c)
	}
	// The parts as Shard has it: the last key's shard is asked, the others are known.
	var wanted []wire.Message
	byShard := make([][]api.Op, 3)
	for _, o := range want {
		shard, err := place.Shard(o.Key, 3)
		if err != nil {
			t.Fatal(err)
		}
		byShard[shard] = append(byShard[shard], o)
	}
	for _, to := range []int{0, 2} {
		for shard, ops := range byShard {
			if len(ops) > 0 {
				wanted = append(wanted, tells(1, to, shard, 1, 1, commit(1, []int{0, 1, 3}, ops...)))
			}
		}
	}
	wantMessages(t, "commit", l, wanted...)
	wantSnapshot(t, "commit", p, 0, 1, 4)
	if p.Clock() != 1 {
		t.Errorf("clock %d", p.Clock())
	}
	wantRead(t, "known at once", p, keys[2], []int{0, 1, 3}, api.Value{Kind: api.Counter, N: 2})
	wantRead(t, "ahead of it", p, keys[2], []int{0, 0, 4}, api.Value{})
	wantRead(t, "it had seen 3", p, keys[2], []int{0, 1, 2}, api.Value{})
}

// TestP61Streams: each stream has numbers of its own, and what goes by it is of its shard alone.
func TestP61Streams(t *testing.T) {
	keys := keysOf(t, 2)
	p := newPlace(t, 0, 2, 2)
	zero, one := numbered(counter(keys[0], 1)), numbered(counter(keys[1], 1))
	_, l := mustCommit(t, p, []int{0, 0}, one...)
	wantMessages(t, "shard 1", l, tells(0, 1, 1, 1, 1, commit(0, []int{1, 0}, one...)))
	_, l = mustCommit(t, p, []int{1, 0}, zero...)
	wantMessages(t, "shard 0", l, tells(0, 1, 0, 1, 2, commit(0, []int{2, 0}, zero...)))
	_, l = mustCommit(t, p, []int{0, 0}, one...)
	wantMessages(t, "shard 1 again", l, tells(0, 1, 1, 2, 3, commit(0, []int{3, 0}, one...)))
	both := numbered(counter(keys[1], 1), counter(keys[0], 1), counter(keys[1], 2))
	_, l = mustCommit(t, p, []int{3, 0}, both...)
	wantMessages(t, "both shards", l,
		tells(0, 1, 0, 2, 4, commit(0, []int{4, 0}, both[1])),
		tells(0, 1, 1, 3, 4, commit(0, []int{4, 0}, both[0], both[2])))
	alone := newPlace(t, 0, 1, 6)
	c, l := mustCommit(t, alone, []int{0}, both...)
	wantMessages(t, "nobody else", l)
	if !sameCommit(c, commit(0, []int{1}, both...)) {
		t.Errorf("nobody else: %+v", c)
	}
	wantCount(t, "nobody else", alone, keys[1], 3)
}

func TestP61FullCommit(t *testing.T) {
	p := newPlace(t, 0, 2, 6)
	ops := slices.Repeat([]api.Op{counter("a", api.MaxTime)}, api.MaxOps)
	c, l := mustCommit(t, p, []int{0, 0}, ops...)
	if !sameCommit(c, commit(0, []int{1, 0}, numbered(ops...)...)) || len(l) != 1 {
		t.Errorf("MaxOps ops: %+v, %+v", c, l)
	}
	wantCount(t, "MaxOps ops", p, "a", api.MaxOps*api.MaxTime)
}

func TestP61Refuses(t *testing.T) {
	ok := counter("a", 1)
	many := slices.Repeat([]api.Op{ok}, api.MaxOps+1)
	for i, c := range []struct {
		at   []int
		ops  []api.Op
		spot int
		want error
	}{
		{nil, []api.Op{ok}, -1, api.ErrShape},
		{[]int{}, []api.Op{ok}, -1, api.ErrShape},
		{make([]int, api.MaxPlaces+1), []api.Op{ok}, -1, api.ErrShape},
		{[]int{0, -1}, []api.Op{ok}, -1, api.ErrBound},
		{[]int{api.MaxTime + 1, 0}, []api.Op{ok}, -1, api.ErrBound},
		{[]int{-1}, nil, -1, api.ErrBound},
		{[]int{0}, []api.Op{ok}, -1, api.ErrShape},
		{[]int{9}, nil, -1, api.ErrShape},
		{[]int{0, 0, 0}, []api.Op{ok}, -1, api.ErrShape},
		{[]int{2, 0}, []api.Op{ok}, -1, api.ErrWait},
		{[]int{0, 3}, []api.Op{ok}, -1, api.ErrWait},
		{[]int{0, api.MaxTime}, nil, -1, api.ErrWait},
		{[]int{2, 0}, many, -1, api.ErrWait},
		{[]int{1, 2}, many, -1, api.ErrBound},
		{[]int{1, 2}, nil, -1, api.ErrShape},
		{[]int{1, 2}, []api.Op{}, -1, api.ErrShape},
		{[]int{1, 2}, []api.Op{counter("A", 1)}, 0, api.ErrName},
		{[]int{1, 2}, []api.Op{ok, {Key: "a"}}, 1, api.ErrKind},
		{[]int{1, 2}, []api.Op{ok, ok, {Key: "a", Kind: api.Counter, Text: "x"}}, 2, api.ErrShape},
		{[]int{1, 2}, []api.Op{ok, register("a", strings.Repeat("x", api.MaxText+1))}, 1, api.ErrBound},
		{[]int{1, 2}, []api.Op{remove("a", "x", api.Dot{Place: 2, Time: 1})}, 0, api.ErrBound},
		{[]int{1, 2}, []api.Op{remove("a", "x", make([]api.Dot, api.MaxDots+1)...)}, 0, api.ErrBound},
	} {
		name := fmt.Sprint("Commit ", i)
		p := newPlace(t, 0, 2, 1)
		_, first := mustCommit(t, p, []int{0, 0}, ok)
		mustHear(t, p, beats(1, 0, 0, 1, 2), 1)
		got, l, err := p.Commit(c.at, c.ops)
		wantError(t, name, err, c.spot, c.want)
		if !sameCommit(got, api.Commit{}) || len(l) != 0 || p.Clock() != 1 {
			t.Errorf("%s: %+v, %+v beside an error, clock %d", name, got, l, p.Clock())
		}
		wantSnapshot(t, name, p, 1, 2)
		wantCount(t, name, p, "a", 1)
		wantMessages(t, name, p.Again(), first...)
		wantMessages(t, name, p.Beat(), beats(0, 1, 0, 2, 1))
	}
}

// TestP61BehindPrune: a commit may be at what is not read any more.
func TestP61BehindPrune(t *testing.T) {
	p := newPlace(t, 0, 2, 1)
	mustCommit(t, p, []int{0, 0}, counter("a", 1))
	mustHear(t, p, beats(1, 0, 0, 1, 2), 1)
	mustPrune(t, p, 1, 2)
	c, _ := mustCommit(t, p, []int{0, 0}, counter("a", 10))
	if !slices.Equal(c.When, []int{2, 0}) {
		t.Errorf("When %v", c.When)
	}
	wantCount(t, "behind a prune", p, "a", 11)
}

func TestP62Beat(t *testing.T) {
	p := newPlace(t, 1, 3, 2)
	wantMessages(t, "first", p.Beat(), beats(1, 0, 0, 1, 0), beats(1, 0, 1, 1, 0), beats(1, 2, 0, 1, 0), beats(1, 2, 1, 1, 0))
	key := keysOf(t, 2)[1]
	for at := range 3 {
		mustCommit(t, p, []int{0, at, 0}, counter(key, 1))
	}
	wantMessages(t, "second", p.Beat(), beats(1, 0, 0, 2, 3), beats(1, 0, 1, 5, 3), beats(1, 2, 0, 2, 3), beats(1, 2, 1, 5, 3))
	wantMessages(t, "the same clock", p.Beat(), beats(1, 0, 0, 3, 3), beats(1, 0, 1, 6, 3), beats(1, 2, 0, 3, 3), beats(1, 2, 1, 6, 3))
	if p.Clock() != 3 {
		t.Errorf("clock %d", p.Clock())
	}
	wantMessages(t, "nobody else", newPlace(t, 0, 1, 3).Beat())
}

func TestP62AgainAndAcks(t *testing.T) {
	p := newPlace(t, 1, 3, 2)
	keys := keysOf(t, 2)
	op := numbered(counter(keys[1], 1))[0]
	first, second := commit(1, []int{0, 1, 0}, op), commit(1, []int{0, 2, 0}, op)
	mustCommit(t, p, []int{0, 0, 0}, op)
	mustCommit(t, p, []int{0, 1, 0}, op)
	p.Beat()
	all := []wire.Message{
		beats(1, 0, 0, 1, 2), tells(1, 0, 1, 1, 1, first), tells(1, 0, 1, 2, 2, second), beats(1, 0, 1, 3, 2),
		beats(1, 2, 0, 1, 2), tells(1, 2, 1, 1, 1, first), tells(1, 2, 1, 2, 2, second), beats(1, 2, 1, 3, 2),
	}
	wantMessages(t, "all", p.Again(), all...)
	for _, n := range []int{math.MinInt, -1, 0, 1, 2, 3, 4, 5, 7, 8, 9, math.MaxInt} {
		wantMessages(t, fmt.Sprint("the first ", n), p.AgainFirst(n), all[:min(max(n, 0), len(all))]...)
	}
	hear := func(m wire.Message, want error) {
		t.Helper()
		if l, err := p.Hear(m); len(l) != 0 || err != want {
			t.Errorf("Hear(%+v) = %+v, %v, want no answer, %v", m, l, err, want)
		}
	}
	hear(ack(0, 1, 0, 0), nil)
	wantMessages(t, "nothing acked", p.Again(), all...)
	hear(ack(2, 1, 1, 2), nil)
	wantMessages(t, "to 2, shard 1", p.Again(), slices.Concat(all[:5], all[7:])...)
	hear(ack(2, 1, 1, 1), nil)
	wantMessages(t, "late", p.Again(), slices.Concat(all[:5], all[7:])...)
	// Of an ack nothing else is looked at.
	odd := ack(0, 1, 0, 1)
	odd.Beat, odd.C = true, commit(0, []int{1, 0, 0}, op)
	hear(odd, nil)
	wantMessages(t, "to 0, shard 0", p.Again(), slices.Concat(all[1:5], all[7:])...)
	wantSnapshot(t, "acks", p, 0, 2, 0)
	wantCount(t, "acks", p, keys[1], 2)
	hear(ack(0, 1, 1, 4), api.ErrBound)
	hear(ack(0, 1, 1, -1), api.ErrBound)
	hear(ack(0, 1, 1, math.MaxInt), api.ErrBound)
	wantMessages(t, "wrong acks", p.Again(), slices.Concat(all[1:5], all[7:])...)
	hear(ack(0, 1, 1, 3), nil)
	hear(ack(2, 1, 0, 1), nil)
	hear(ack(2, 1, 1, 3), nil)
	wantMessages(t, "all acked", p.Again())
	wantMessages(t, "the next", p.Beat(), beats(1, 0, 0, 2, 2), beats(1, 0, 1, 4, 2), beats(1, 2, 0, 2, 2), beats(1, 2, 1, 4, 2))
}

func TestP62HearAcksAlways(t *testing.T) {
	q := newPlace(t, 1, 2, 2)
	said := func(seq int) wire.Message {
		return tells(0, 1, 1, seq, seq, commit(0, []int{seq, 0}, counter("a", 1)))
	}
	mustHear(t, q, said(2), 0)
	mustHear(t, q, said(2), 0)
	mustHear(t, q, said(4), 0)
	mustHear(t, q, said(1), 2)
	mustHear(t, q, said(1), 2)
	mustHear(t, q, said(3), 4)
	mustHear(t, q, said(2), 4)
	mustHear(t, q, said(5+api.MaxFlying), 4)
	mustHear(t, q, beats(0, 1, 0, 1, 4), 1)
	wantSnapshot(t, "all", q, 4, 0)
	wantCount(t, "all", q, "a", 4)
	if len(q.Again()) != 0 {
		t.Errorf("acks are sent once: %+v", q.Again())
	}
}

func TestP62HearRefuses(t *testing.T) {
	good := tells(0, 1, 1, 1, 1, commit(0, []int{1, 0, 0}, counter("a", 1)))
	for i, c := range []struct {
		change func(m *wire.Message)
		want   error
	}{
		{func(m *wire.Message) { m.From = -1 }, api.ErrBound},
		{func(m *wire.Message) { m.From = 3 }, api.ErrBound},
		{func(m *wire.Message) { m.From = math.MinInt }, api.ErrBound},
		{func(m *wire.Message) { m.From = math.MaxInt }, api.ErrBound},
		{func(m *wire.Message) { m.From = 1 }, api.ErrBound},
		{func(m *wire.Message) { m.Shard = -1 }, api.ErrBound},
		{func(m *wire.Message) { m.Shard = 2 }, api.ErrBound},
		{func(m *wire.Message) { m.Shard = math.MaxInt }, api.ErrBound},
		{func(m *wire.Message) { m.Shard, m.To = 2, 0 }, api.ErrBound},
		{func(m *wire.Message) { m.From, m.To = 1, 0 }, api.ErrBound},
		{func(m *wire.Message) { m.To = 0 }, api.ErrShape},
		{func(m *wire.Message) { m.To = 2 }, api.ErrShape},
		{func(m *wire.Message) { m.To = -1 }, api.ErrShape},
		{func(m *wire.Message) { m.To = math.MaxInt }, api.ErrShape},
		{func(m *wire.Message) { m.To, m.Seq = 2, 0 }, api.ErrShape},
		{func(m *wire.Message) { m.Seq = 0 }, api.ErrBound},
		{func(m *wire.Message) { m.Seq = -1 }, api.ErrBound},
		{func(m *wire.Message) { m.Seq = math.MinInt }, api.ErrBound},
		{func(m *wire.Message) { m.Time = -2 }, api.ErrBound},
		{func(m *wire.Message) { m.Time = api.MaxTime + 1 }, api.ErrBound},
		{func(m *wire.Message) { m.Time, m.Seq = api.MaxTime+1, 2+api.MaxFlying }, api.ErrBound},
		{func(m *wire.Message) { m.Seq = 2 + api.MaxFlying }, api.ErrFull},
		{func(m *wire.Message) { m.Seq = math.MaxInt }, api.ErrFull},
		{func(m *wire.Message) { m.Time, m.From = -1, 1 }, api.ErrBound},
		{func(m *wire.Message) { m.Time, m.Shard = -1, 2 }, api.ErrBound},
		{func(m *wire.Message) { m.Time, m.To = -1, 0 }, api.ErrShape},
		{func(m *wire.Message) { m.Time, m.Seq = -1, 1 }, api.ErrBound},
	} {
		name := fmt.Sprint("Hear ", i)
		p := newPlace(t, 1, 3, 2)
		m := wire.Copy(good)
		c.change(&m)
		if l, err := p.Hear(m); len(l) != 0 || err != c.want {
			t.Errorf("%s: %+v, %v, want %v, bare", name, l, err, c.want)
		}
		mustHear(t, p, beats(0, 1, 0, 1, 1), 1)
		mustHear(t, p, beats(0, 1, 1, 2, 1), 0)
		mustHear(t, p, good, 2)
		wantSnapshot(t, name, p, 1, 0, 0)
		wantCount(t, name, p, "a", 1)
	}
	if _, err := newPlace(t, 0, 1, 6).Hear(wire.Message{Seq: 1}); err != api.ErrBound {
		t.Errorf("nobody else: %v", err)
	}
}

// TestP62LeftAway: what is no commit of its stream is not known, but has come.
func TestP62LeftAway(t *testing.T) {
	op := counter("a", 1)
	for i, c := range []api.Commit{
		{},
		commit(0, []int{2, 0, 0}),
		commit(1, []int{2, 1, 0}, op),
		commit(1, []int{2, 2, 0}, op),
		commit(2, []int{2, 0, 1}, op),
		commit(3, []int{2, 1, 1}, op),
		commit(-1, []int{2, 1, 1}, op),
		commit(0, []int{2, 0}, op),
		commit(0, []int{2, 0, 0, 0}, op),
		commit(0, []int{0, 1, 1}, op),
		commit(0, []int{2, -1, 0}, op),
		commit(0, []int{api.MaxTime + 1, 0, 0}, op),
		commit(0, []int{2, 0, 0}, counter("A", 1)),
		commit(0, []int{2, 0, 0}, op, op),
		commit(0, []int{2, 0, 0}, slices.Repeat([]api.Op{op}, api.MaxOps+1)...),
		commit(0, []int{1, 0, 0}, op, api.Op{At: 1, Key: "a", Kind: api.Counter, N: 1}),
	} {
		name := fmt.Sprint("commit ", i)
		p := newPlace(t, 1, 3, 1)
		mustCommit(t, p, []int{0, 0, 0}, counter("b", 1))
		mustHear(t, p, beats(2, 1, 0, 1, 3), 1)
		mustHear(t, p, tells(0, 1, 0, 1, 1, commit(0, []int{1, 0, 0}, op)), 1)
		mustHear(t, p, tells(0, 1, 0, 2, 5, c), 2)
		wantSnapshot(t, name, p, 5, 1, 3)
		wantCount(t, name, p, "a", 1)
		mustHear(t, p, tells(0, 1, 0, 3, 6, commit(0, []int{6, 0, 0}, op)), 3)
		wantCount(t, name, p, "a", 2)
		// Nobody else may take this place's times ahead of it.
		mustCommit(t, p, []int{6, 1, 3}, op)
		wantCount(t, name, p, "a", 3)
	}
}

// TestP62Taken: a commit's time and its keys' shards are not held against its message.
func TestP62Taken(t *testing.T) {
	keys := keysOf(t, 2)
	p := newPlace(t, 1, 2, 2)
	mustHear(t, p, tells(0, 1, 0, 1, 7, commit(0, []int{3, 0}, counter(keys[1], 1))), 1)
	mustHear(t, p, beats(0, 1, 1, 1, 7), 1)
	wantCount(t, "another time, another shard", p, keys[1], 1)
	wantRead(t, "ahead of it", p, keys[1], []int{2, 0}, api.Value{})
}

func TestP62LeftAwayWithinBase(t *testing.T) {
	p := newPlace(t, 1, 2, 1)
	mustHear(t, p, beats(0, 1, 0, 1, 5), 1)
	mustPrune(t, p, 5, 0)
	mustHear(t, p, tells(0, 1, 0, 2, 6, commit(0, []int{5, 0}, counter("a", 1))), 2)
	wantCount(t, "within base", p, "a", 0)
	mustHear(t, p, tells(0, 1, 0, 3, 7, commit(0, []int{7, 0}, counter("a", 1))), 3)
	wantCount(t, "beyond base", p, "a", 1)
}

// TestP62BeatHasNoCommit: a beat is without a commit, whatever lies beside it.
func TestP62BeatHasNoCommit(t *testing.T) {
	p := newPlace(t, 1, 2, 1)
	m := beats(0, 1, 0, 1, 1)
	m.C = commit(0, []int{1, 0}, counter("a", 1))
	mustHear(t, p, m, 1)
	wantSnapshot(t, "a beat", p, 1, 0)
	wantCount(t, "a beat", p, "a", 0)
}

// TestP62BeatTellsTheClock is the document's example: a place whose clock is 3 beats.
func TestP62BeatTellsTheClock(t *testing.T) {
	p, q := newPlace(t, 0, 2, 3), newPlace(t, 1, 2, 3)
	for at := range 3 {
		_, l := mustCommit(t, p, []int{at, 0}, counter("a", 1))
		mustHear(t, q, l[0], at+1)
	}
	wantSnapshot(t, "the streams of other shards have not come", q, 0, 0)
	wantCount(t, "ahead of the beat", q, "a", 0)
	for i, m := range p.Beat() {
		wantSnapshot(t, fmt.Sprint("behind ", i, " beats"), q, 0, 0)
		if _, err := q.Hear(m); err != nil {
			t.Fatal(err)
		}
	}
	wantSnapshot(t, "behind the beat", q, 3, 0)
	wantCount(t, "behind the beat", q, "a", 3)
}

func TestP63ReadAndDots(t *testing.T) {
	p := newPlace(t, 0, 2, 1)
	mustCommit(t, p, []int{0, 0}, add("s", "a"), register("r", "one"))
	mustHear(t, p, tells(1, 0, 0, 1, 1, commit(1, []int{0, 1}, numbered(add("s", "a"), add("s", "b"))...)), 1)
	mustCommit(t, p, []int{1, 0}, remove("s", "a", api.Dot{Place: 0, Time: 1, At: 0}), register("r", "two"))
	for i, c := range []struct {
		at   []int
		set  []string
		text string
		dots []api.Dot
	}{
		{[]int{0, 0}, nil, "", nil},
		{[]int{0, 1}, []string{"a", "b"}, "", []api.Dot{{Place: 1, Time: 1}}},
		{[]int{1, 0}, []string{"a"}, "one", []api.Dot{{Place: 0, Time: 1}}},
		{[]int{1, 1}, []string{"a", "b"}, "one", []api.Dot{{Place: 0, Time: 1}, {Place: 1, Time: 1}}},
		{[]int{2, 0}, nil, "two", nil},
		{[]int{2, 1}, []string{"a", "b"}, "two", []api.Dot{{Place: 1, Time: 1}}},
	} {
		v, err := p.Read("s", c.at)
		if err != nil || !slices.Equal(v.Set, c.set) {
			t.Errorf("%d: set %+v, %v, want %v", i, v, err, c.set)
		}
		v, err = p.Read("r", c.at)
		if err != nil || v.Text != c.text {
			t.Errorf("%d: register %+v, %v, want %q", i, v, err, c.text)
		}
		if dots, err := p.Dots("s", "a", c.at); err != nil || !slices.Equal(dots, c.dots) {
			t.Errorf("%d: dots %v, %v, want %v", i, dots, err, c.dots)
		}
	}
	wantRead(t, "no such key", p, "none", []int{2, 1}, api.Value{})
	for _, c := range [][2]string{{"r", "one"}, {"none", "a"}, {"s", "c"}, {"s", strings.Repeat("a", api.MaxText+1)}} {
		if dots, err := p.Dots(c[0], c[1], []int{2, 1}); err != nil || len(dots) != 0 {
			t.Errorf("Dots(%q, %q) = %v, %v", c[0], c[1], dots, err)
		}
	}
}

func TestP63Refuses(t *testing.T) {
	p := newPlace(t, 0, 2, 1)
	for at := range 3 {
		mustCommit(t, p, []int{at, 0}, counter("a", 1))
	}
	mustHear(t, p, beats(1, 0, 0, 1, 5), 1)
	mustPrune(t, p, 2, 1)
	for i, c := range []struct {
		key  string
		at   []int
		want error
	}{
		{"", nil, api.ErrName},
		{"A", []int{0, 0}, api.ErrName},
		{strings.Repeat("a", api.MaxName+1), []int{9, 9}, api.ErrName},
		{"a", nil, api.ErrShape},
		{"a", []int{}, api.ErrShape},
		{"a", make([]int, api.MaxPlaces+1), api.ErrShape},
		{"a", []int{-1}, api.ErrBound},
		{"a", []int{2, api.MaxTime + 1}, api.ErrBound},
		{"a", []int{math.MinInt, math.MaxInt}, api.ErrBound},
		{"a", []int{2}, api.ErrShape},
		{"a", []int{9, 9, 9}, api.ErrShape},
		{"a", []int{4, 1}, api.ErrWait},
		{"a", []int{2, 6}, api.ErrWait},
		{"a", []int{4, 0}, api.ErrWait},
		{"a", []int{0, 6}, api.ErrWait},
		{"a", []int{api.MaxTime, api.MaxTime}, api.ErrWait},
		{"a", []int{1, 1}, api.ErrOld},
		{"a", []int{2, 0}, api.ErrOld},
		{"a", []int{0, 0}, api.ErrOld},
		{"none", []int{3, 0}, api.ErrOld},
	} {
		if v, err := p.Read(c.key, c.at); !sameValue(v, api.Value{}) || err != c.want {
			t.Errorf("Read %d: %+v, %v, want %v", i, v, err, c.want)
		}
		if l, err := p.Dots(c.key, "x", c.at); len(l) != 0 || err != c.want {
			t.Errorf("Dots %d: %v, %v, want %v", i, l, err, c.want)
		}
	}
	wantRead(t, "at base", p, "a", []int{2, 1}, api.Value{Kind: api.Counter, N: 2})
	wantRead(t, "at the snapshot", p, "a", []int{3, 5}, api.Value{Kind: api.Counter, N: 3})
}

func TestP63Prune(t *testing.T) {
	p := newPlace(t, 0, 2, 1)
	for at := range 3 {
		mustCommit(t, p, []int{at, 0}, counter("a", 1))
	}
	mustHear(t, p, beats(1, 0, 0, 1, 5), 1)
	for i, c := range []struct {
		at   []int
		want error
	}{
		{nil, api.ErrShape},
		{make([]int, api.MaxPlaces+1), api.ErrShape},
		{[]int{-1}, api.ErrBound},
		{[]int{0, api.MaxTime + 1}, api.ErrBound},
		{[]int{0}, api.ErrShape},
		{[]int{9, 9, 9}, api.ErrShape},
		{[]int{4, 0}, api.ErrWait},
		{[]int{0, 6}, api.ErrWait},
		{[]int{api.MaxTime, 0}, api.ErrWait},
	} {
		if err := p.Prune(c.at); err != c.want {
			t.Errorf("Prune %d: %v, want %v", i, err, c.want)
		}
		wantRead(t, "behind an error", p, "a", []int{0, 0}, api.Value{})
		wantRead(t, "behind an error", p, "a", []int{1, 0}, api.Value{Kind: api.Counter, N: 1})
	}
	mustPrune(t, p, 0, 0)
	wantRead(t, "nothing pruned", p, "a", []int{0, 0}, api.Value{})
	mustPrune(t, p, 2, 0)
	mustPrune(t, p, 1, 3)
	for i, at := range [][]int{{1, 3}, {2, 2}, {2, 0}} {
		if _, err := p.Read("a", at); err != api.ErrOld {
			t.Errorf("%d: below the most of both: %v", i, err)
		}
	}
	wantRead(t, "at the most of both", p, "a", []int{2, 3}, api.Value{Kind: api.Counter, N: 2})
	mustPrune(t, p, 3, 5)
	wantRead(t, "at the snapshot", p, "a", []int{3, 5}, api.Value{Kind: api.Counter, N: 3})
}
