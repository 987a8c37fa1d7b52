package place

import (
	"causeway/api"
	"causeway/stream"
	"causeway/wire"
)

// line between a place and another one, of one shard: the streams there and back.
type line struct {
	*stream.Sender
	*stream.Receiver
}

// newLines to another place, by shard.
func newLines(id, other, shards int) ([]line, error) {
	lines := make([]line, shards)
	for shard := range lines {
		s, err := stream.NewSender(id, other, shard)
		if err != nil {
			return nil, err
		}
		r, err := stream.NewReceiver(other, id, shard)
		if err != nil {
			return nil, err
		}
		lines[shard] = line{s, r}
	}
	return lines, nil
}

// leastTime up to which all that the other place did has come.
func leastTime(l []line) int {
	least := api.MaxTime
	for _, from := range l {
		least = min(least, from.Time())
	}
	return least
}

// sent is what a sender answers, as a list. A place's clock never goes back and
// its commits are checked, so that a sender refuses nothing.
func sent(m wire.Message, err error) []wire.Message {
	if err != nil {
		return nil
	}
	return []wire.Message{m}
}
