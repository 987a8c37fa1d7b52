package script

import (
	"strconv"

	"causeway/api"
	"causeway/judge"
	"causeway/play"
	"causeway/vector"
)

// command: the words that it takes, and what it does with them.
type command struct {
	takes []kind
	first bool // it is done without a world, too
	do    func(w words) (string, error)
}

// done is a command that tells nothing but that it was done.
func done(do func(w words) error, takes ...kind) command {
	return command{takes: takes, do: func(w words) (string, error) {
		if err := do(w); err != nil {
			return "", err
		}
		return "ok", nil
	}}
}

// counts is a command that tells how many.
func counts(do func() int) command {
	return command{do: func(words) (string, error) { return strconv.Itoa(do()), nil }}
}

// tells is a command that tells a vector of a session, or of a place.
func tells(do func(n int) ([]int, error)) command {
	return command{takes: []kind{digit}, do: func(w words) (string, error) {
		v, err := do(w.numbers[0])
		if err != nil {
			return "", err
		}
		return vector.Text(v)
	}}
}

// numbered is a command that names something by its number.
func numbered(is kind, do func(n int) error) command {
	return done(func(w words) error { return do(w.numbers[0]) }, is)
}

// creates is the command that makes a world.
func (p *player) creates() command {
	c := done(p.create, number, number)
	c.first = true
	return c
}

// writes is a command that writes an op like o, of the line's key and text.
func (p *player) writes(o api.Op) command {
	return done(func(w words) error {
		one := o
		one.Key, one.Text = w.texts[0], w.texts[1]
		return p.Write(w.numbers[0], one)
	}, digit, text, text)
}

// commands by their names. Each one looks for the world as it is done, since that
// is made by one of them: so none is a method of a world that is there now.
func (p *player) commands() map[string]command {
	return map[string]command{
		"world":    p.creates(),
		"begin":    done(func(w words) error { return p.Begin(w.numbers[0], w.numbers[1]) }, digit, digit),
		"set":      p.writes(api.Op{Kind: api.Register}),
		"add":      done(p.add, digit, text, number),
		"put":      p.writes(api.Op{Kind: api.Set}),
		"drop":     p.writes(api.Op{Kind: api.Set, Remove: true}),
		"commit":   numbered(digit, func(s int) error { return p.Commit(s) }),
		"abort":    numbered(digit, func(s int) error { return p.Abort(s) }),
		"read":     {takes: []kind{digit, text}, do: p.value},
		"go":       numbered(number, func(at int) error { return p.Deliver(at) }),
		"lose":     numbered(number, func(at int) error { return p.Drop(at) }),
		"twice":    numbered(number, func(at int) error { return p.Twice(at) }),
		"beat":     numbered(digit, func(id int) error { return p.Beat(id) }),
		"again":    numbered(digit, func(id int) error { return p.Again(id) }),
		"prune":    numbered(digit, func(id int) error { return p.Prune(id) }),
		"all":      counts(p.deliverAll),
		"settle":   counts(func() int { return play.Settle(p.World) }),
		"snapshot": tells(func(id int) ([]int, error) { return p.Snapshot(id) }),
		"token":    tells(func(s int) ([]int, error) { return p.Token(s) }),
		"fly":      counts(func() int { return p.CountFlying() }),
		"check":    done(func(words) error { return judge.Check(p.CountPlaces(), p.Events()) }),
	}
}
