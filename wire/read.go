package wire

import (
	"strings"

	"causeway/api"
)

// reader throws where what is left cannot be what was told.
type reader struct {
	rest string
}

// whole is a message with nothing behind it.
func (r *reader) whole() Message {
	m := r.message()
	if r.rest != "" {
		throw(api.ErrText)
	}
	return m
}

func (r *reader) message() Message {
	var m Message
	m.From = r.number()
	m.To = r.number()
	m.Shard = r.number()
	m.Seq = r.number()
	m.Time = r.number()
	m.Beat = r.truth()
	m.C = r.commit()
	return m
}

func (r *reader) commit() api.Commit {
	var c api.Commit
	for range r.count() {
		c.When = append(c.When, r.number())
	}
	c.Place = r.number()
	for range r.count() {
		c.Ops = append(c.Ops, r.op())
	}
	return c
}

func (r *reader) op() api.Op {
	var o api.Op
	o.At = r.number()
	o.Key = r.text()
	o.Kind = r.number()
	o.Text = r.text()
	o.N = r.number()
	o.Remove = r.truth()
	for range r.count() {
		o.Dots = append(o.Dots, r.dot())
	}
	return o
}

func (r *reader) dot() api.Dot {
	var d api.Dot
	d.Place = r.number()
	d.Time = r.number()
	d.At = r.number()
	return d
}

func (r *reader) number() int {
	var n uint64
	for _, b := range []byte(r.take(numberSize)) {
		n = n<<8 | uint64(b)
	}
	return int(n)
}

func (r *reader) truth() bool {
	n := r.number()
	if n != 0 && n != 1 {
		throw(api.ErrText)
	}
	return n == 1
}

// text is a copy, so that a short one does not keep all of its message.
func (r *reader) text() string {
	return strings.Clone(r.take(r.count()))
}

// count of bytes, or of things that have at least one each: more of them than
// there are bytes left cannot come.
func (r *reader) count() int {
	n := r.number()
	if n < 0 || n > len(r.rest) {
		throw(api.ErrText)
	}
	return n
}

func (r *reader) take(size int) string {
	if size > len(r.rest) {
		throw(api.ErrText)
	}
	s := r.rest[:size]
	r.rest = r.rest[size:]
	return s
}
