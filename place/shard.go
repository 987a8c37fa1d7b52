package place

import (
	"causeway/api"
	"causeway/values"
	"causeway/wire"
)

// Shard of a key.
func Shard(key string, shards int) (int, error) {
	if err := values.CheckName(key); err != nil {
		return 0, err
	}
	if !isShards(shards) {
		return 0, api.ErrBound
	}
	return shardOf(key, shards), nil
}

func shardOf(key string, shards int) int {
	return int(wire.Remainder(key) % uint32(shards))
}

func isShards(shards int) bool {
	return shards >= 1 && shards <= api.MaxShards
}

// partsOf a commit, by shard. They are only read: senders copy what they tell.
func partsOf(c api.Commit, shards int) []api.Commit {
	parts := make([]api.Commit, shards)
	for i := range parts {
		parts[i].When, parts[i].Place = c.When, c.Place
	}
	for _, o := range c.Ops {
		shard := shardOf(o.Key, shards)
		parts[shard].Ops = append(parts[shard].Ops, o)
	}
	return parts
}
