package tiles_test

import (
	"math"
	"strconv"
	"testing"

	"pantile/api"
	"pantile/tiles"
)

// whole are so many tiles of a level, from the index 0 on, that have all they may.
func whole(level, many int) (out []api.Tile) {
	for index := range many {
		out = append(out, api.Tile{Level: level, Index: index, Width: 256})
	}
	return out
}

func together(parts ...[]api.Tile) (out []api.Tile) {
	for _, p := range parts {
		out = append(out, p...)
	}
	return out
}

func one(level, index, width int) []api.Tile {
	return []api.Tile{{Level: level, Index: index, Width: width}}
}

// P12.1: the tiles of trees at whose sizes tiles and levels begin and end, written out.
func TestKnownTiles(t *testing.T) {
	for n, want := range map[int][]api.Tile{
		0:          nil,
		1:          {{Level: -1, Index: 0, Width: 1}, {Level: 0, Index: 0, Width: 1}},
		255:        {{Level: -1, Index: 0, Width: 255}, {Level: 0, Index: 0, Width: 255}},
		256:        {{Level: -1, Index: 0, Width: 256}, {Level: 0, Index: 0, Width: 256}, {Level: 1, Index: 0, Width: 1}},
		257:        {{Level: -1, Index: 0, Width: 256}, {Level: -1, Index: 1, Width: 1}, {Level: 0, Index: 0, Width: 256}, {Level: 0, Index: 1, Width: 1}, {Level: 1, Index: 0, Width: 1}},
		512:        {{Level: -1, Index: 0, Width: 256}, {Level: -1, Index: 1, Width: 256}, {Level: 0, Index: 0, Width: 256}, {Level: 0, Index: 1, Width: 256}, {Level: 1, Index: 0, Width: 2}},
		65535:      together(whole(-1, 255), one(-1, 255, 255), whole(0, 255), one(0, 255, 255), one(1, 0, 255)),
		65536:      together(whole(-1, 256), whole(0, 256), one(1, 0, 256), one(2, 0, 1)),
		65537:      together(whole(-1, 256), one(-1, 256, 1), whole(0, 256), one(0, 256, 1), one(1, 0, 256), one(2, 0, 1)),
		65792:      together(whole(-1, 257), whole(0, 257), one(1, 0, 256), one(1, 1, 1), one(2, 0, 1)),
		70000:      together(whole(-1, 273), one(-1, 273, 112), whole(0, 273), one(0, 273, 112), one(1, 0, 256), one(1, 1, 17), one(2, 0, 1)),
		1<<20 - 1:  together(whole(-1, 4095), one(-1, 4095, 255), whole(0, 4095), one(0, 4095, 255), whole(1, 15), one(1, 15, 255), one(2, 0, 15)),
		mostLeaves: together(whole(-1, 4096), whole(0, 4096), whole(1, 16), one(2, 0, 16)),
	} {
		same(t, "All of "+strconv.Itoa(n), tiles.All(n), want)
		same(t, "the model's of "+strconv.Itoa(n), modelAll(n), want)
	}
}

// P12.1: the tiles of trees of all small sizes, of those at the edges, and of some by chance.
func TestTilesByDefinition(t *testing.T) {
	sizes := edges()
	for n := range 2000 {
		sizes = append(sizes, n)
	}
	c := chance()
	for range 300 {
		sizes = append(sizes, c.Intn(mostLeaves+1), c.Intn(4096)*256, 256*(1+c.Intn(4096))-1)
	}
	for _, n := range sizes {
		same(t, "All of "+strconv.Itoa(n), tiles.All(n), modelAll(n))
	}
}

// P12.1: each tile is as wide as Width says, those behind the last one and those of more levels have nothing.
func TestTilesAreAsWide(t *testing.T) {
	for _, n := range edges() {
		many := map[int]int{}
		for _, x := range tiles.All(n) {
			width(t, n, x.Level, x.Index, x.Width)
			if x.Index != many[x.Level] || x.Width < 1 || x.Width > 256 {
				t.Fatalf("All(%d) has %v behind %d of its level", n, x, many[x.Level])
			}
			many[x.Level]++
		}
		for level := -1; level < 70; level++ {
			for behind := range 300 {
				width(t, n, level, many[level]+behind, 0)
			}
		}
	}
}

// P12.1: none of an n that may not be.
func TestTilesOfNoTree(t *testing.T) {
	for _, n := range others() {
		if l := tiles.All(n); len(l) != 0 {
			t.Errorf("All(%d): %d", n, len(l))
		}
		for level := -3; level < 10; level++ {
			for _, index := range []int{-1, 0, 1, 255, 4095, 4096, 1 << 40} {
				width(t, n, level, index, 0)
			}
		}
	}
}

// P12.1: widths at a tile's last index, and behind it, at all levels.
func TestKnownWidths(t *testing.T) {
	for _, c := range []struct{ n, level, index, want int }{
		{0, -1, 0, 0}, {0, 0, 0, 0}, {0, 1, 0, 0}, {0, 2, 0, 0},
		{1, -1, 0, 1}, {1, 0, 0, 1}, {1, -1, 1, 0}, {1, 0, 1, 0}, {1, 1, 0, 0},
		{255, -1, 0, 255}, {255, 0, 0, 255}, {255, 0, 1, 0}, {255, 1, 0, 0},
		{256, -1, 0, 256}, {256, 0, 0, 256}, {256, -1, 1, 0}, {256, 0, 1, 0}, {256, 1, 0, 1}, {256, 1, 1, 0}, {256, 2, 0, 0},
		{257, -1, 0, 256}, {257, -1, 1, 1}, {257, -1, 2, 0}, {257, 0, 0, 256}, {257, 0, 1, 1}, {257, 0, 2, 0}, {257, 1, 0, 1},
		{511, 1, 0, 1}, {512, 1, 0, 2},
		{65535, -1, 255, 255}, {65535, 0, 255, 255}, {65535, 0, 254, 256}, {65535, 0, 256, 0}, {65535, 1, 0, 255}, {65535, 1, 1, 0}, {65535, 2, 0, 0},
		{65536, -1, 255, 256}, {65536, 0, 255, 256}, {65536, 0, 256, 0}, {65536, 1, 0, 256}, {65536, 1, 1, 0}, {65536, 2, 0, 1}, {65536, 2, 1, 0}, {65536, 3, 0, 0},
		{65537, -1, 256, 1}, {65537, 0, 256, 1}, {65537, 1, 0, 256}, {65537, 1, 1, 0}, {65537, 2, 0, 1},
		{70000, 0, 273, 112}, {70000, 1, 1, 17}, {70000, 1, 2, 0}, {70000, 2, 0, 1}, {131071, 2, 0, 1}, {131072, 2, 0, 2},
		{mostLeaves - 1, -1, 4095, 255}, {mostLeaves - 1, 0, 4095, 255}, {mostLeaves - 1, 1, 15, 255}, {mostLeaves - 1, 2, 0, 15},
		{mostLeaves, -1, 4095, 256}, {mostLeaves, -1, 4096, 0}, {mostLeaves, 0, 4095, 256}, {mostLeaves, 0, 4096, 0}, {mostLeaves, 1, 15, 256}, {mostLeaves, 1, 16, 0}, {mostLeaves, 2, 0, 16}, {mostLeaves, 2, 1, 0}, {mostLeaves, 3, 0, 0},
	} {
		width(t, c.n, c.level, c.index, c.want)
		if got := modelWidth(c.n, c.level, c.index); got != c.want {
			t.Errorf("the model's width of %v: %d", c, got)
		}
	}
}

// P12.1: widths counted one by one, at all places of small trees, and at some of great ones.
func TestWidthsByDefinition(t *testing.T) {
	for n := range 1030 {
		for level := -3; level < 5; level++ {
			for index := -2; index < 7; index++ {
				width(t, n, level, index, modelWidth(n, level, index))
			}
		}
	}
	c := chance()
	for range 20000 {
		n, level := c.Intn(mostLeaves+1), c.Intn(6)-2
		last := n / 256
		if level > 0 {
			last = n / 65536
		}
		for _, index := range []int{c.Intn(4098) - 1, last - 1, last, last + 1} {
			width(t, n, level, index, modelWidth(n, level, index))
		}
	}
}

// P12.1: levels and indices at which there is nothing, among them such as a product or a shift would bring round.
func TestWidthsFarOff(t *testing.T) {
	far := []int{math.MinInt, math.MinInt + 1, math.MinInt / 2, math.MinInt/256 - 1, math.MinInt / 256, math.MinInt / 8, -1 << 55, -1 << 40, -65536, -4096, -256, -64, -8, -3, -2}
	great := []int{1 << 29, 1 << 31, 1 << 32, 1 << 40, 1 << 53, 1<<55 - 1, 1 << 55, 1<<55 + 1, 1<<56 - 1, 1 << 56, 1<<56 + 1, 1 << 58, 1 << 59, 1 << 60, 1 << 61, 1<<61 + 1, 1 << 62, math.MaxInt - 255, math.MaxInt - 1, math.MaxInt}
	for _, n := range edges() {
		for _, x := range append(far, great...) {
			for y := -2; y < 70; y++ {
				width(t, n, x, y, 0)
				width(t, n, y, x, 0)
			}
			for _, y := range append(far, great...) {
				width(t, n, x, y, 0)
			}
		}
		for level := -1; level < 140; level++ {
			width(t, n, level, -1, 0)
			if level > 2 {
				width(t, n, level, 0, 0)
			}
		}
	}
}
