package play

import (
	"strconv"

	"causeway/api"
	"causeway/world"
)

// kinds of steps that a number tells, by what is left of it.
const kinds = 16

// keys that a play writes on.
const keys = 5

// player does steps in its world.
type player struct {
	*world.World
}

// step that a number tells: was it done?
func (p player) step(v int) bool {
	if v < 0 {
		return false
	}
	q := v / kinds
	s, rest := q%api.MaxSessions, q/api.MaxSessions
	switch v % kinds {
	case 0, 1, 2, 3, 4, 5:
		return p.message(q, p.Deliver)
	case 6:
		return p.message(q, p.Drop)
	case 7:
		return p.message(q, p.Twice)
	case 8:
		return p.Begin(s, p.place(rest)) == nil
	case 9:
		_, err := p.Read(s, key(rest))
		return err == nil
	case 10, 11:
		return p.Write(s, opOf(q, false)) == nil
	case 12:
		return p.Write(s, opOf(q, true)) == nil
	case 13:
		return p.Commit(s) == nil
	case 14:
		return p.Beat(p.place(q)) == nil
	default:
		return p.Again(p.place(q)) == nil
	}
}

// message that is on its way, if one is.
func (p player) message(q int, do func(at int) error) bool {
	n := p.CountFlying()
	return n > 0 && do(q%n) == nil
}

// place number. A world that nobody made has no places, and refuses each one.
func (p player) place(q int) int {
	return q % max(p.CountPlaces(), 1)
}

func key(q int) string {
	return "k" + strconv.Itoa(q%keys)
}

// opOf a number, on its key. Only of a set there is something to remove.
func opOf(q int, remove bool) api.Op {
	at := q / api.MaxSessions
	o := api.Op{Key: key(at)}
	switch at % keys {
	case 0, 1:
		o.Kind, o.Text = api.Register, "t"+strconv.Itoa(q)
	case 2:
		o.Kind, o.N = api.Counter, q%100
	default:
		o.Kind, o.Text, o.Remove = api.Set, "e"+strconv.Itoa(q%7), remove
	}
	return o
}
