package wire

import "causeway/api"

// writer throws as soon as there is no room: ops may share one list of dots, so
// that what would be told is far longer than what was handed over.
type writer struct {
	told []byte
}

func (w *writer) message(m Message) {
	w.number(m.From)
	w.number(m.To)
	w.number(m.Shard)
	w.number(m.Seq)
	w.number(m.Time)
	w.truth(m.Beat)
	w.commit(m.C)
}

func (w *writer) commit(c api.Commit) {
	w.number(len(c.When))
	for _, time := range c.When {
		w.number(time)
	}
	w.number(c.Place)
	w.number(len(c.Ops))
	for _, o := range c.Ops {
		w.op(o)
	}
}

func (w *writer) op(o api.Op) {
	w.number(o.At)
	w.text(o.Key)
	w.number(o.Kind)
	w.text(o.Text)
	w.number(o.N)
	w.truth(o.Remove)
	w.number(len(o.Dots))
	for _, d := range o.Dots {
		w.number(d.Place)
		w.number(d.Time)
		w.number(d.At)
	}
}

func (w *writer) number(n int) {
	w.need(numberSize)
	for shift := 8 * (numberSize - 1); shift >= 0; shift -= 8 {
		w.told = append(w.told, byte(n>>shift))
	}
}

func (w *writer) truth(b bool) {
	if b {
		w.number(1)
	} else {
		w.number(0)
	}
}

func (w *writer) text(s string) {
	w.number(len(s))
	w.need(len(s))
	w.told = append(w.told, s...)
}

// need room for so many bytes, with the sum behind them.
func (w *writer) need(size int) {
	if size > api.MaxWire-sumSize-len(w.told) {
		throw(api.ErrFull)
	}
}
