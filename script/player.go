package script

import (
	"strconv"
	"strings"

	"causeway/api"
	"causeway/world"
)

// player does what lines say in its world: it has none until a line makes it.
type player struct {
	*world.World
}

// answer to a line. The text of an error has no place in it.
func (p *player) answer(commands map[string]command, line string) string {
	told, err := p.play(commands, line)
	if err != nil {
		return err.Error()
	}
	return told
}

func (p *player) play(commands map[string]command, line string) (string, error) {
	c, w, err := read(commands, line)
	if err != nil {
		return "", err
	}
	if p.World == nil && !c.first {
		return "", api.ErrNone
	}
	return c.do(w)
}

// create a world. Where there can be none like this, the one ahead stays.
func (p *player) create(w words) error {
	made, err := world.New(w.numbers[0], w.numbers[1])
	if err != nil {
		return err
	}
	p.World = made
	return nil
}

func (p *player) add(w words) error {
	return p.Write(w.numbers[0], api.Op{Key: w.texts[0], Kind: api.Counter, N: w.numbers[1]})
}

func (p *player) value(w words) (string, error) {
	v, err := p.Read(w.numbers[0], w.texts[0])
	if err != nil {
		return "", err
	}
	return textOf(v), nil
}

func (p *player) deliverAll() int {
	n := 0
	for n < api.MaxSteps && p.Deliver(0) == nil {
		n++
	}
	return n
}

// textOf a value. A counter of 0 is a number like others; what would be told by
// no letter at all is nothing.
func textOf(v api.Value) string {
	told := ""
	switch v.Kind {
	case api.Register:
		told = v.Text
	case api.Counter:
		told = strconv.Itoa(v.N)
	case api.Set:
		told = strings.Join(v.Set, ",")
	}
	if told == "" {
		return "nothing"
	}
	return told
}
