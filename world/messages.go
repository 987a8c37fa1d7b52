package world

import (
	"slices"

	"causeway/api"
	"causeway/wire"
)

// messages on their way, in order.
type messages struct {
	flying []wire.Message
}

// send what there is room for: what is beyond is lost.
func (m *messages) send(l []wire.Message) {
	m.flying = append(m.flying, l[:min(len(l), m.room())]...)
}

// room for so many more.
func (m *messages) room() int {
	return api.MaxFlying - len(m.flying)
}

// land takes a message off its way.
func (m *messages) land(at int) (wire.Message, error) {
	if !m.flies(at) {
		return wire.Message{}, api.ErrNone
	}
	one := m.flying[at]
	m.flying = slices.Delete(m.flying, at, at+1)
	return one, nil
}

// double a message: the other one flies right behind it. Both share their
// memory, into which nobody writes.
func (m *messages) double(at int) error {
	switch {
	case !m.flies(at):
		return api.ErrNone
	case m.room() < 1:
		return api.ErrFull
	}
	m.flying = slices.Insert(m.flying, at+1, m.flying[at])
	return nil
}

func (m *messages) flies(at int) bool {
	return at >= 0 && at < len(m.flying)
}
