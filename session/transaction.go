package session

import (
	"slices"

	"causeway/api"
	"causeway/place"
	"causeway/values"
	"causeway/wire"
)

// transaction that is open: where it is, what it sees of that place, and its ops
// so far.
type transaction struct {
	here *place.Place
	at   []int
	ops  []api.Op
}

// more is one op more. Its number it gets of the place, as it is committed.
func (t *transaction) more(o api.Op) error {
	if len(t.ops) == api.MaxOps {
		return api.ErrFull
	}
	if err := values.Check(o, len(t.at)); err != nil {
		return err
	}
	if o.Remove {
		dots, err := t.here.Dots(o.Key, o.Text, t.at)
		if err != nil {
			return err
		}
		o.Dots = dots[:min(len(dots), api.MaxDots)]
	}
	t.ops = append(t.ops, o)
	return nil
}

// commit what there is: a transaction without ops takes no time of the place.
func (t *transaction) commit() (api.Commit, []wire.Message, error) {
	if len(t.ops) == 0 {
		return api.Commit{When: slices.Clone(t.at), Place: t.here.ID()}, nil, nil
	}
	return t.here.Commit(t.at, t.ops)
}

// value of a key: the place's, then what the own ops make of it.
func (t *transaction) value(key string) (api.Value, error) {
	v, err := t.here.Read(key, t.at)
	if err != nil {
		return api.Value{}, err
	}
	own := t.opsOn(key)
	if v.Kind == 0 && len(own) > 0 {
		v.Kind = own[0].Kind
	}
	own = slices.DeleteFunc(own, func(o api.Op) bool { return o.Kind != v.Kind })
	if len(own) == 0 {
		return v, nil
	}
	switch v.Kind {
	case api.Register:
		v.Text = own[len(own)-1].Text
	case api.Counter:
		for _, o := range own {
			v.N += o.N
		}
	case api.Set:
		v.Set, err = t.texts(key, v.Set, own)
	}
	if err != nil {
		return api.Value{}, err
	}
	return v, nil
}

// opsOn a key, in a list of its own.
func (t *transaction) opsOn(key string) []api.Op {
	var own []api.Op
	for _, o := range t.ops {
		if o.Key == key {
			own = append(own, o)
		}
	}
	return own
}

// texts of a set: those of the place that stand, and those that own ops put.
// What is put here no own op takes away, in whatever order they come: its dot is
// none that the place tells.
func (t *transaction) texts(key string, set []string, own []api.Op) ([]string, error) {
	gone := dotsOf(own)
	var out []string
	for _, text := range set {
		stands, err := t.stands(key, text, own, gone)
		if err != nil {
			return nil, err
		}
		if stands {
			out = append(out, text)
		}
	}
	for _, o := range own {
		if !o.Remove {
			out = append(out, o.Text)
		}
	}
	slices.Sort(out)
	return slices.Compact(out), nil
}

// stands: a text that the place has, and of which own ops do not name all dots,
// since it has more of them than an op may name.
func (t *transaction) stands(key, text string, own []api.Op, gone map[api.Dot]struct{}) (bool, error) {
	if !slices.ContainsFunc(own, func(o api.Op) bool { return o.Remove && o.Text == text }) {
		return true, nil
	}
	dots, err := t.here.Dots(key, text, t.at)
	if err != nil {
		return false, err
	}
	return slices.ContainsFunc(dots, func(d api.Dot) bool { _, named := gone[d]; return !named }), nil
}

// dotsOf ops: all that they name.
func dotsOf(ops []api.Op) map[api.Dot]struct{} {
	named := map[api.Dot]struct{}{}
	for _, o := range ops {
		for _, d := range o.Dots {
			named[d] = struct{}{}
		}
	}
	return named
}
