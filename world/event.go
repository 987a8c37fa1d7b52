package world

import (
	"slices"

	"causeway/api"
	"causeway/wire"
)

// Seen: a key that was read.
type Seen struct {
	Key string
	V   api.Value
}

// Event: a transaction that was committed.
type Event struct {
	Session, Place int
	At             []int
	Reads          []Seen
	C              api.Commit
}

// copyEvent is new memory, of which no two lists share any.
func copyEvent(e Event) Event {
	e.At = slices.Clone(e.At)
	e.Reads = slices.Clone(e.Reads)
	for i := range e.Reads {
		v := &e.Reads[i].V
		v.Set = slices.Clone(v.Set)
	}
	e.C = wire.CopyCommit(e.C)
	return e
}
