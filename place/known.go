package place

import (
	"slices"

	"causeway/api"
	"causeway/versions"
	"causeway/wire"
)

// known is what a place knows: its versions. They are embedded here and not in
// Place itself, where they would be a field that is exported: everyone could put
// into them, past the streams.
type known struct {
	*versions.Versions
}

func newKnown(places int) (known, error) {
	v, err := versions.New(places)
	return known{v}, err
}

// take what has come of a stream. What is refused has come all the same: the
// stream goes on behind it, so that there is nobody to tell.
func (k known) take(m wire.Message) {
	if m.Beat || m.C.Place != m.From {
		return
	}
	_ = k.Put(m.C)
}

// commitOf a transaction, all of it new memory.
func commitOf(at []int, place, time int, ops []api.Op) api.Commit {
	c := api.Commit{When: slices.Clone(at), Place: place, Ops: slices.Clone(ops)}
	c.When[place] = time
	for i := range c.Ops {
		o := &c.Ops[i]
		o.At = i
		o.Dots = slices.Clone(o.Dots)
	}
	return c
}
