package wire

import (
	"slices"

	"causeway/api"
)

// Copy of a message: new memory, of which no two lists share any.
func Copy(m Message) Message {
	m.C = CopyCommit(m.C)
	return m
}

// CopyCommit likewise.
func CopyCommit(c api.Commit) api.Commit {
	c.When = slices.Clone(c.When)
	c.Ops = slices.Clone(c.Ops)
	for i := range c.Ops {
		o := &c.Ops[i]
		o.Dots = slices.Clone(o.Dots)
	}
	return c
}
