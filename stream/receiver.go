package stream

import (
	"causeway/api"
	"causeway/wire"
)

// Receiver of a stream. A nil one, which NewReceiver answers beside an error, is
// of no stream: nothing comes by it.
type Receiver struct {
	way
	seq, time int                  // of the last that has come
	ahead     map[int]wire.Message // of their turn, by Seq
}

// NewReceiver of a stream.
func NewReceiver(from, to, shard int) (*Receiver, error) {
	w, err := newWay(from, to, shard)
	if err != nil {
		return nil, err
	}
	return &Receiver{way: w, ahead: map[int]wire.Message{}}, nil
}

// Hear a message.
func (r *Receiver) Hear(m wire.Message) (l []wire.Message, err error) {
	switch {
	case r == nil || !r.bears(m):
		return nil, api.ErrShape
	case m.Seq < 1 || !isTime(m.Time):
		return nil, api.ErrBound
	case r.knows(m.Seq):
		return nil, nil
	case m.Seq-(r.seq+1) > api.MaxFlying:
		return nil, api.ErrFull
	}
	r.ahead[m.Seq] = wire.Copy(m)
	return r.come(), nil
}

// knows: has it come, or is it kept?
func (r *Receiver) knows(seq int) bool {
	_, kept := r.ahead[seq]
	return kept || seq <= r.seq
}

// come is what is kept and has its turn now. It is not kept any more, so that
// it may be handed out as it is.
func (r *Receiver) come() []wire.Message {
	var l []wire.Message
	for {
		m, there := r.ahead[r.seq+1]
		if !there {
			return l
		}
		delete(r.ahead, m.Seq)
		r.seq, r.time = m.Seq, m.Time
		l = append(l, m)
	}
}

// Seq of the last that has come.
func (r *Receiver) Seq() int {
	if r == nil {
		return 0
	}
	return r.seq
}

// Time of the last that has come.
func (r *Receiver) Time() int {
	if r == nil {
		return 0
	}
	return r.time
}
