package judge

import (
	"slices"

	"causeway/api"
	"causeway/values"
	"causeway/vector"
	"causeway/world"
)

// verdict on an event: what is wrong with it, or nil. Some keep what they need of
// the events ahead: they are asked of each event, in the order of the list.
type verdict func(e world.Event) error

// firstFault of a list: of each event the verdicts are asked in their order.
func firstFault(l []world.Event, verdicts ...verdict) error {
	for i, e := range l {
		for _, wrong := range verdicts {
			if err := wrong(e); err != nil {
				return &api.Fault{At: i, Err: err}
			}
		}
	}
	return nil
}

// ofPlaces: are its vectors and its place of so many places?
func ofPlaces(places int) verdict {
	isOne := func(v []int) bool { return len(v) == places && vector.Check(v) == nil }
	return func(e world.Event) error {
		if !isOne(e.At) || !isOne(e.C.When) || e.Place < 0 || e.Place >= places {
			return api.ErrShape
		}
		return nil
	}
}

// wholeCommit: a transaction that only read has a commit without ops, of which
// nothing is asked.
func wholeCommit(e world.Event) error {
	if !wrote(e) {
		return nil
	}
	return values.WithoutPlace(values.CheckCommit(e.C))
}

// forward: does its commit have all that it could see?
func forward(e world.Event) error {
	if !within(e.At, e.C.When) {
		return api.ErrBound
	}
	return nil
}

// inTurn: does it see what its session did last?
func inTurn() verdict {
	last := map[int][]int{}
	return func(e world.Event) error {
		done, there := last[e.Session]
		last[e.Session] = e.C.When
		if there && !within(done, e.At) {
			return api.ErrOld
		}
		return nil
	}
}

// trueReads: did it read what all commits that it could see make?
func trueReads(l []world.Event) verdict {
	all := commitsOf(l)
	return func(e world.Event) error {
		seen := slices.DeleteFunc(slices.Clone(all), func(c api.Commit) bool { return !within(c.When, e.At) })
		if slices.ContainsFunc(e.Reads, func(r world.Seen) bool { return !isTrue(r, seen) }) {
			return api.ErrSum
		}
		return nil
	}
}

// pairOfVectors: can what it did be held against what it could see?
func pairOfVectors(e world.Event) error {
	_, err := vector.Within(e.C.When, e.At)
	return err
}

// likeFirst: has it as many places as the first event?
func likeFirst(l []world.Event) verdict {
	return func(e world.Event) error {
		if len(e.At) != len(l[0].At) {
			return api.ErrShape
		}
		return nil
	}
}

func isTrue(r world.Seen, seen []api.Commit) bool {
	v, err := values.Of(r.Key, seen)
	return err == nil && sameValue(v, r.V)
}

// sameValue: a nil set and an empty one are the same.
func sameValue(a, b api.Value) bool {
	return a.Kind == b.Kind && a.Text == b.Text && a.N == b.N && slices.Equal(a.Set, b.Set)
}

// commitsOf events: those with ops, in the order of the list.
func commitsOf(l []world.Event) []api.Commit {
	var all []api.Commit
	for _, e := range l {
		if wrote(e) {
			all = append(all, e.C)
		}
	}
	return all
}

func wrote(e world.Event) bool {
	return len(e.C.Ops) > 0
}
