package tiles

import (
	"math/bits"
	"slices"
	"strings"

	"pantile/api"
	"pantile/peaks"
)

const (
	tileLevels = 8 // of nodes that a tile's hashes make, its own the lowest
	mostLevel  = 40
	mostIndex  = 1 << 40
)

// Place is the hash tile in which a node is, and the place of the first of those that make it.
func Place(level, index int) (api.Tile, int, api.Errno) {
	if !within(level, 0, mostLevel) || !within(index, 0, mostIndex) {
		return api.Tile{}, 0, api.ErrRange
	}
	many := 1 << (level % tileLevels)
	first := index * many
	from := first % api.TileWidth
	return api.Tile{Level: level / tileLevels, Index: first / api.TileWidth, Width: from + many}, from, api.OK
}

// Node is the hash that some of a hash tile make.
func Node(data []byte, from, many int) (string, api.Errno) {
	if !within(many, 1, api.TileWidth) || bits.OnesCount(uint(many)) != 1 || from < 0 || from%many != 0 {
		return "", api.ErrRange
	}
	// So without a sum, which a place may be too great for.
	if from > len(data)/api.HashSize-many {
		return "", api.ErrShort
	}
	r := peaks.Hashes()
	for h := range slices.Chunk(data[from*api.HashSize:][:many*api.HashSize], api.HashSize) {
		r.Add(string(h))
	}
	top, _ := r.Top()
	return top, api.OK
}

// Data is the bytes of hashes.
func Data(l []string) []byte { return []byte(strings.Join(l, "")) }
