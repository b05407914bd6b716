package tiles_test

import (
	"testing"

	"pantile/api"
	"pantile/tiles"
)

// shelf is a tree and its tiles' bytes, made when they are asked for, out of the nodes of the tree by their definition.
type shelf struct {
	n     int
	nodes [][]string
	data  map[api.Tile][]byte
}

func shelfOf(n int) *shelf {
	return &shelf{n, modelTree(hashes(n)), map[api.Tile][]byte{}}
}

// bytes are those of the hash tile of a level and an index.
func (s *shelf) bytes(level, index int) []byte {
	at := api.Tile{Level: level, Index: index}
	if s.data[at] == nil {
		row := s.nodes[8*level]
		s.data[at] = joined(row[inTile*index : min(inTile*(index+1), len(row))])
	}
	return s.data[at]
}

// made tells where a node of the tree is not made by what stands in its tile, or where less would do.
func (s *shelf) made(t *testing.T, level, index int) {
	t.Helper()
	x, from, e := tiles.Place(level, index)
	if e != api.OK || tiles.Width(s.n, x.Level, x.Index) < x.Width {
		t.Fatalf("of %d: Place(%d, %d): %v %v, but so many are not there", s.n, level, index, x, e)
	}
	many := 1 << (level % 8)
	data, want := s.bytes(x.Level, x.Index), s.nodes[level][index]
	makes(t, data, from, many, want)
	makes(t, data[:32*x.Width], from, many, want)
	makesNone(t, data[:32*x.Width-1], from, many, api.ErrShort)
}

// P12.5: each node of trees of some sizes is made by what stands in its tiles.
func TestNodesAreMade(t *testing.T) {
	for _, n := range []int{1, 2, 3, 4, 5, 6, 7, 8, 9, 31, 64, 100, 127, 128, 255, 256, 257, 384, 511, 512, 513, 1000} {
		s := shelfOf(n)
		for level, row := range s.nodes {
			for index := range row {
				s.made(t, level, index)
			}
		}
	}
}

// P12.5: each node of the higher levels of great trees, and of the lower ones the first ones, the last ones and some between.
func TestNodesOfManyAreMade(t *testing.T) {
	for _, n := range []int{65535, 65536, 65537, 70000, mostLeaves} {
		s := shelfOf(n)
		for level, row := range s.nodes {
			for index := range row {
				if len(row) < 40 || index < 3 || index > len(row)-4 || index%(len(row)/13) == 0 {
					s.made(t, level, index)
				}
			}
		}
	}
}

// P12.5, P12.1: a tile has so many of its first ones as a node asks for if the node's leaves are all there, and else not.
func TestNodesThatAreThere(t *testing.T) {
	for _, n := range append(edges(), others()...) {
		for level := range 41 {
			last := -1
			if n >= 0 && n <= mostLeaves {
				last = n>>level - 1
			}
			for _, index := range []int{0, 1, last - 1, last, last + 1, last + 2, last + 255, last + 256, last + 257, 2*last + 2, mostIndex} {
				if index < 0 {
					continue
				}
				x, _, e := tiles.Place(level, index)
				if there := tiles.Width(n, x.Level, x.Index) >= x.Width; e != api.OK || there != (index <= last) {
					t.Errorf("of %d: the node %d of the level %d: %v %v", n, index, level, there, e)
				}
			}
		}
	}
}

// P12.5: so is a tree's whole level of each tile's level: tile by tile it is what the tree has.
func TestTilesHoldALevel(t *testing.T) {
	for _, n := range []int{1, 255, 256, 257, 512, 1000, 65535, 65536, 65537} {
		s := shelfOf(n)
		for level := 0; 8*level < len(s.nodes); level++ {
			at := 0
			for index := 0; tiles.Width(n, level, index) > 0; index++ {
				next := at + tiles.Width(n, level, index)
				if string(tiles.Data(s.nodes[8*level][at:next])) != string(s.bytes(level, index)) {
					t.Errorf("of %d: the tile %d of the level %d", n, index, level)
				}
				at = next
			}
			if at != len(s.nodes[8*level]) {
				t.Errorf("of %d: %d of the level %d, not %d", n, at, level, len(s.nodes[8*level]))
			}
		}
	}
}
