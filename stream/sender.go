package stream

import (
	"math"
	"slices"

	"causeway/api"
	"causeway/values"
	"causeway/wire"
)

// Sender of a stream. A nil one, which NewSender answers beside an error, is of
// no stream: nothing goes by it.
type Sender struct {
	way
	seq, time int // of the last one
	unacked   []wire.Message
}

// NewSender of a stream.
func NewSender(from, to, shard int) (*Sender, error) {
	w, err := newWay(from, to, shard)
	if err != nil {
		return nil, err
	}
	return &Sender{way: w}, nil
}

// Commit goes next.
func (s *Sender) Commit(c api.Commit) (wire.Message, error) {
	if err := values.CheckCommit(c); err != nil {
		return wire.Message{}, err
	}
	if s == nil || c.Place != s.from {
		return wire.Message{}, api.ErrShape
	}
	time := c.When[s.from]
	if time <= s.time {
		return wire.Message{}, api.ErrOld
	}
	return s.next(wire.Message{Time: time, C: c}), nil
}

// Beat goes next.
func (s *Sender) Beat(time int) (wire.Message, error) {
	switch {
	case !isTime(time):
		return wire.Message{}, api.ErrBound
	case s == nil:
		return wire.Message{}, api.ErrShape
	case time < s.time:
		return wire.Message{}, api.ErrOld
	}
	return s.next(wire.Message{Time: time, Beat: true}), nil
}

// next keeps one copy and answers another: what is written into the answer must
// not be sent again.
func (s *Sender) next(m wire.Message) wire.Message {
	s.seq++
	s.time = m.Time
	m.From, m.To, m.Shard, m.Seq = s.from, s.to, s.shard, s.seq
	s.unacked = append(s.unacked, wire.Copy(m))
	return wire.Copy(m)
}

// Acked up to a number.
func (s *Sender) Acked(seq int) error {
	if s == nil || seq < 0 || seq > s.seq {
		return api.ErrBound
	}
	// Acks come late, too: those of an earlier one tell nothing new.
	if n := seq - s.acked(); n > 0 {
		s.unacked = slices.Delete(s.unacked, 0, n)
	}
	return nil
}

// acked is the last one that need not be sent again.
func (s *Sender) acked() int {
	return s.seq - len(s.unacked)
}

// Again what is not acked.
func (s *Sender) Again() []wire.Message {
	return s.AgainFirst(math.MaxInt)
}

// AgainFirst is the first n of Again's, at most: to copy what there is no room
// for would take long, of a sender that is never acked.
func (s *Sender) AgainFirst(n int) []wire.Message {
	if s == nil {
		return nil
	}
	var l []wire.Message
	for _, m := range s.unacked[:min(max(n, 0), len(s.unacked))] {
		l = append(l, wire.Copy(m))
	}
	return l
}
