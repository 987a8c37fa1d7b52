package judge

import (
	"causeway/api"
	"causeway/world"
)

// placed is what an event that is in a round waits for.
const placed = -1

// rounds of events whose vectors have been checked. Of each event is counted how
// many it has seen that are in no round: so the pairs are gone through twice,
// however many rounds there are.
func rounds(l []world.Event) ([][]int, error) {
	waits := make([]int, len(l))
	for a := range l {
		eachWitness(l, a, func(b int) { waits[b]++ })
	}
	var out [][]int
	for left := len(l); left > 0; {
		round := takeFree(waits)
		if len(round) == 0 {
			return nil, api.ErrHeld
		}
		for _, a := range round {
			eachWitness(l, a, func(b int) { waits[b]-- })
		}
		out = append(out, round)
		left -= len(round)
	}
	return out, nil
}

// takeFree takes all that wait for nothing any more.
func takeFree(waits []int) []int {
	var round []int
	for n, more := range waits {
		if more == 0 {
			waits[n] = placed
			round = append(round, n)
		}
	}
	return round
}

// eachWitness of what event number a did: all that have seen it; nobody, if it
// did nothing.
func eachWitness(l []world.Event, a int, tell func(b int)) {
	if !wrote(l[a]) {
		return
	}
	for b, e := range l {
		if within(l[a].C.When, e.At) {
			tell(b)
		}
	}
}
