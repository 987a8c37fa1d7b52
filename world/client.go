package world

import (
	"slices"

	"causeway/api"
	"causeway/place"
	"causeway/session"
	"causeway/wire"
)

// client is a session, and what an event will tell of its transaction that is
// open.
type client struct {
	*session.Session
	event Event
	wrote bool // reads behind the first op are not told
}

func newClients(places int) ([]*client, error) {
	l := make([]*client, api.MaxSessions)
	for i := range l {
		s, err := session.New(places)
		if err != nil {
			return nil, err
		}
		l[i] = &client{Session: s}
	}
	return l, nil
}

// begin a transaction of session number s at place number p, which is here.
func (c *client) begin(s, p int, here *place.Place) error {
	at, err := c.Begin(here)
	if err != nil {
		return err
	}
	c.event, c.wrote = Event{Session: s, Place: p, At: at}, false
	return nil
}

// saw a value: the caller may write into his, so that the event has its own.
func (c *client) saw(key string, v api.Value) {
	if c.wrote {
		return
	}
	v.Set = slices.Clone(v.Set)
	c.event.Reads = append(c.event.Reads, Seen{Key: key, V: v})
}

// write an op, if it is one of those that a session has.
func (c *client) write(o api.Op) error {
	if !c.Open() {
		return api.ErrNone
	}
	err := c.op(o)
	c.wrote = c.wrote || err == nil
	return err
}

func (c *client) op(o api.Op) error {
	switch o.Kind {
	case api.Register:
		return c.Set(o.Key, o.Text)
	case api.Counter:
		return c.Add(o.Key, o.N)
	case api.Set:
		if o.Remove {
			return c.Drop(o.Key, o.Text)
		}
		return c.Put(o.Key, o.Text)
	}
	return api.ErrKind
}

// commit the transaction: what is told of it, and what it sends.
func (c *client) commit() (Event, []wire.Message, error) {
	e := c.event
	c.event = Event{} // with an error, too, the transaction is at its end
	done, sent, err := c.Commit()
	if err != nil {
		return Event{}, nil, err
	}
	e.C = done
	return e, sent, nil
}

func (c *client) abort() error {
	c.event = Event{}
	return c.Abort()
}
