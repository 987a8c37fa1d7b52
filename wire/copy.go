package wire

import "slices"

// Copy of a message: new memory, of which no two lists share any.
func Copy(m Message) Message {
	m.C.When = slices.Clone(m.C.When)
	m.C.Ops = slices.Clone(m.C.Ops)
	for i := range m.C.Ops {
		o := &m.C.Ops[i]
		o.Dots = slices.Clone(o.Dots)
	}
	return m
}
