package kv

import (
	"cmp"
	"maps"
	"slices"
	"strings"

	"pantile/api"
)

// held is what stands at keys: of each the write that was done last.
type held map[string]api.Write

// take lets a batch be done.
func (h held) take(batch []api.Write) {
	for _, w := range batch {
		if w.Gone {
			delete(h, w.Key)
			continue
		}
		key := strings.Clone(w.Key) // neither what is handed in is kept, nor a whole log for the sake of a key
		h[key] = api.Write{Key: key, Value: strings.Clone(w.Value)}
	}
}

// writes is what makes it, by the keys.
func (h held) writes() []api.Write {
	byKey := func(a, b api.Write) int { return cmp.Compare(a.Key, b.Key) }
	return slices.SortedFunc(maps.Values(h), byKey)
}

// lastOnes is of each key of a batch its last write, by the keys: those ahead of it would take up room for nothing.
func lastOnes(batch []api.Write) []api.Write {
	last := held{}
	for _, w := range batch {
		last[w.Key] = w
	}
	return last.writes()
}
