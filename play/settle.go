package play

import (
	"slices"

	"causeway/world"
)

// mostRounds is a bound, since places may have more to send again than can fly.
const mostRounds = 40

// Settle a world.
func Settle(w *world.World) int {
	p := player{World: w}
	for round := range mostRounds {
		if p.settled() {
			return round
		}
		p.round()
	}
	return mostRounds
}

// settled: have all places the same snapshot?
func (p player) settled() bool {
	first, _ := p.Snapshot(0)
	for id := range p.CountPlaces() {
		at, err := p.Snapshot(id)
		if err != nil || !slices.Equal(at, first) {
			return false
		}
	}
	return true
}

// round: each place tells what it has to tell, and all that comes of it comes.
func (p player) round() {
	for id := range p.CountPlaces() {
		p.call(id)
	}
}

// call of a place to all others, with all answers.
func (p player) call(id int) {
	// A place that is there refuses neither.
	_ = p.Again(id)
	_ = p.Beat(id)
	for p.Deliver(0) == nil {
	}
}
