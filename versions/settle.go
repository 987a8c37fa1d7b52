package versions

import (
	"cmp"
	"slices"

	"causeway/api"
	"causeway/vector"
)

// target is what a remove takes away: the op of a dot, if this is the text that it adds.
type target struct {
	api.Dot
	text string
}

// settle lets go of what no read on a key can tell any more. Every read to come
// sees all that is within base: of this, what it makes together is enough. But
// what is put later may go ahead of it all and bring another kind, so that each
// kind has to be kept, and the first op of all, which tells the kind till then.
func (v *Versions) settle(l []api.Commit) []api.Commit {
	var settled, open []api.Commit
	for _, c := range l {
		if within(c.When, v.base) {
			settled = append(settled, c)
		} else {
			open = append(open, c)
		}
	}
	slices.SortFunc(settled, compareParts)
	settled = withoutRemoved(sumCounters(lastRegister(settled)))
	return append(v.withoutSpentRemoves(settled, open), open...)
}

// compareParts by the order in which their ops count.
func compareParts(a, b api.Commit) int {
	if ahead, err := vector.Ahead(a.When, a.Place, b.When, b.Place); err == nil && ahead {
		return -1
	}
	if ahead, err := vector.Ahead(b.When, b.Place, a.When, a.Place); err == nil && ahead {
		return 1
	}
	return cmp.Compare(a.Ops[0].At, b.Ops[0].At)
}

// lastRegister lets go of what was set, and is set again within base.
func lastRegister(l []api.Commit) []api.Commit {
	last := -1
	for i, c := range l {
		if c.Ops[0].Kind == api.Register {
			last = i
		}
	}
	var kept []api.Commit
	for i, c := range l {
		if i == 0 || i == last || c.Ops[0].Kind != api.Register {
			kept = append(kept, c)
		}
	}
	return kept
}

// sumCounters lets one op stand for those behind it, as long as the sum is one that an op may have.
func sumCounters(l []api.Commit) []api.Commit {
	var kept []api.Commit
	var sum *api.Op
	for i := range l {
		o := &l[i].Ops[0]
		if o.Kind == api.Counter {
			if sum != nil && isSum(sum.N+o.N) {
				sum.N += o.N
				continue
			}
			sum = o
		}
		kept = append(kept, l[i])
	}
	return kept
}

func isSum(n int) bool {
	return n >= -api.MaxTime && n <= api.MaxTime
}

// withoutRemoved lets go of what was added, and is removed within base.
func withoutRemoved(l []api.Commit) []api.Commit {
	removed := map[target]struct{}{}
	for _, c := range l {
		for _, d := range c.Ops[0].Dots {
			removed[target{d, c.Ops[0].Text}] = struct{}{}
		}
	}
	var kept []api.Commit
	for i, c := range l {
		_, gone := removed[targetOf(c)]
		if i == 0 || !isAdd(c) || !gone {
			kept = append(kept, c)
		}
	}
	return kept
}

// withoutSpentRemoves lets go of the dots that settled removes need not name any
// more: those of ops that are there, but are no adds (of the text) that are kept.
// A dot of nobody stays named: what has it may still come.
func (v *Versions) withoutSpentRemoves(settled, open []api.Commit) []api.Commit {
	adds := map[target]struct{}{}
	for _, l := range [][]api.Commit{settled, open} {
		for _, c := range l {
			if isAdd(c) {
				adds[targetOf(c)] = struct{}{}
			}
		}
	}
	var kept []api.Commit
	for i, c := range settled {
		o := &c.Ops[0]
		o.Dots = slices.DeleteFunc(o.Dots, func(d api.Dot) bool {
			_, there := v.dots[d]
			_, stands := adds[target{d, o.Text}]
			return there && !stands
		})
		if i == 0 || !o.Remove || len(o.Dots) > 0 {
			kept = append(kept, c)
		}
	}
	return kept
}

func isAdd(c api.Commit) bool {
	return c.Ops[0].Kind == api.Set && !c.Ops[0].Remove
}

func targetOf(c api.Commit) target {
	return target{dotOf(c, c.Ops[0]), c.Ops[0].Text}
}
