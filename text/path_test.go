package text_test

import (
	"math"
	"strings"
	"testing"

	"pantile/api"
	"pantile/text"
)

// indices are edges of indices, and some between.
func indices() []int {
	all := []int{1234067, 123456789012345, 9007199254740, 10, 99, 100, 500, 998, 5000, 10000, 100000, 1001000, 1000001, most - 2}
	for n := 1; n < most; n *= 1000 {
		all = append(all, n-1, n, n+1)
	}
	for n := 1; n < most; n *= 2 {
		all = append(all, n)
	}
	return append(all, most-1, most)
}

// P7.3, P7.4: paths that are known.
func TestKnownPaths(t *testing.T) {
	for s, tile := range map[string]api.Tile{
		"tile/entries/x001/x234/067": {Level: -1, Index: 1234067, Width: 256},
		"tile/0/005.p/3":             {Level: 0, Index: 5, Width: 3},
		"tile/0/000":                 {Level: 0, Index: 0, Width: 256},
		"tile/0/000.p/1":             {Level: 0, Index: 0, Width: 1},
		"tile/0/000.p/255":           {Level: 0, Index: 0, Width: 255},
		"tile/0/000.p/10":            {Level: 0, Index: 0, Width: 10},
		"tile/0/000.p/100":           {Level: 0, Index: 0, Width: 100},
		"tile/1/999":                 {Level: 1, Index: 999, Width: 256},
		"tile/12/x001/000.p/255":     {Level: 12, Index: 1000, Width: 255},
		"tile/63/x001/001":           {Level: 63, Index: 1001, Width: 256},
		"tile/entries/999.p/1":       {Level: -1, Index: 999, Width: 1},
		"tile/entries/000":           {Level: -1, Index: 0, Width: 256},
		"tile/10/010":                {Level: 10, Index: 10, Width: 256},
		"tile/7/x012/345":            {Level: 7, Index: 12345, Width: 256},
		"tile/7/x123/456":            {Level: 7, Index: 123456, Width: 256},
		"tile/7/x999/999":            {Level: 7, Index: 999999, Width: 256},
		"tile/7/x001/x000/000":       {Level: 7, Index: 1000000, Width: 256},
		"tile/63/x009/x007/x199/x254/x740/992.p/255":      {Level: 63, Index: most, Width: 255},
		"tile/entries/x009/x007/x199/x254/x740/991":       {Level: -1, Index: most - 1, Width: 256},
		"tile/entries/x001/x000/x000/x000/x000/000.p/128": {Level: -1, Index: 1000000000000000, Width: 128},
		"tile/0/x999/x999/x999/x999/999":                  {Level: 0, Index: 999999999999999, Width: 256},
	} {
		if got := goesBoth(t, tile); got != s {
			t.Errorf("%+v: %q, not %q", tile, got, s)
		}
		if got, e := text.Parse(s); got != tile || e != api.OK {
			t.Errorf("Parse(%q): %+v %d", s, got, e)
		}
		takesEach(t, parses, s)
	}
}

// P7.3, P7.4: tiles of all levels and widths at the edges of indices: each path is read as its tile, and no two tiles have one.
func TestPathsByTheModel(t *testing.T) {
	seen, all := map[string]struct{}{}, map[api.Tile]struct{}{}
	for level := -1; level <= 63; level++ {
		for _, index := range indices() {
			for _, width := range []int{1, 2, 9, 10, 63, 99, 100, 101, 254, 255, 256} {
				tile := api.Tile{Level: level, Index: index, Width: width}
				seen[goesBoth(t, tile)] = struct{}{}
				all[tile] = struct{}{}
			}
		}
	}
	if len(seen) != len(all) {
		t.Errorf("%d paths of %d tiles", len(seen), len(all))
	}
}

// P7.3, P7.4: all indices up to some, and all widths.
func TestEachIndexAndWidth(t *testing.T) {
	seen := map[string]struct{}{}
	for index := range 20000 {
		seen[goesBoth(t, api.Tile{Level: index % 64, Index: index, Width: 256})] = struct{}{}
	}
	for width := 1; width < 256; width++ {
		for level := -1; level <= 63; level++ {
			seen[goesBoth(t, api.Tile{Level: level, Index: 11, Width: width})] = struct{}{}
		}
	}
	if len(seen) != 20000+255*65 {
		t.Errorf("%d paths", len(seen))
	}
}

// P7.3, R2: tiles that are none, in one way or in more.
func TestTilesThatAreNone(t *testing.T) {
	levels := []int{-2, -1, 0, 63, 64, -3, -100, 65, 256, 1 << 32, 1<<32 + 1, math.MaxInt, math.MinInt}
	indices := []int{-1, 0, 999, 1000, most, most + 1, -2, -most, most + 2, 2 * most, math.MaxInt, math.MinInt}
	widths := []int{-1, 0, 1, 255, 256, 257, -256, 512, 1 << 8, 1<<32 + 1, math.MaxInt, math.MinInt}
	right := 0
	for _, level := range levels {
		for _, index := range indices {
			for _, width := range widths {
				if goesBoth(t, api.Tile{Level: level, Index: index, Width: width}) != "" {
					right++
				}
			}
		}
	}
	if right != 3*4*4 {
		t.Errorf("%d of them are tiles", right)
	}
	if s, e := text.Path(api.Tile{}); s != "" || e != api.ErrArg {
		t.Errorf("Path of none: %q %d", s, e)
	}
}

// P7.3, P7.4: texts that are no tile's path, though one may see which is meant.
func TestTextsThatAreNoPaths(t *testing.T) {
	refusesEach(t, parses,
		"", "t", "tile", "tile/", "tile//", "tile/0", "tile/0/", "tile//000", "/tile/0/000", "tile/0/000/", "tile/0/000 ", " tile/0/000", "tile/0/000\n", "tile/0/000\x00", "Tile/0/000", "TILE/0/000", "tiles/0/000", "tile0/000", "0/000", "000", "/0/000", "./tile/0/000", "tile/../tile/0/000", "tile/tile/0/000",
		"tile/00/000", "tile/01/000", "tile/064/000", "tile/64/000", "tile/65/000", "tile/100/000", "tile/-1/000", "tile/-0/000", "tile/+1/000", "tile/ 1/000", "tile/1 /000", "tile/x0/000", "tile/x001/000", "tile/a/000", "tile/1a/000", "tile/18446744073709551616/000", "tile/18446744073709551615/000", "tile/4294967296/000",
		"tile/entry/000", "tile/entries", "tile/entries/", "tile/entries0/000", "tile/0entries/000", "tile/Entries/000", "tile/ENTRIES/000", "tile/entries /000", "tile/data/000", "tile/-/000", "tile/entries//000", "tile/entries/entries/000", "tile/entries/0/000", "tile/0/entries/000",
		"tile/0/0", "tile/0/00", "tile/0/5", "tile/0/05", "tile/0/0000", "tile/0/0005", "tile/0/1000", "tile/0/000000", "tile/0/000005", "tile/0/x5/000", "tile/0/x05/000", "tile/0/x0005/000", "tile/0/x005/0", "tile/0/x005/00", "tile/0/x005/0000",
		"tile/0/x000/000", "tile/0/x000/005", "tile/0/x000/x001/000", "tile/0/x000/x000/x000/005", "tile/0/x000/x000/x000/x000/x000/x000/005", "tile/0/x001/x000/x000/x000/x000/x000/000", "tile/0/x010/x000/x000/x000/x000/000",
		"tile/0/x000", "tile/0/x005", "tile/0/x001/x000", "tile/0/001/000", "tile/0/001/x000", "tile/0/x001x000", "tile/0/x001000", "tile/0/x001/234/067", "tile/0/001/x234/067", "tile/0/x001/x234/x067", "tile/0/xx001/000", "tile/0/x001//000", "tile/0//x001/000", "tile/0/x001/000/", "tile/0/x/001/000", "tile/0/x001/x/000", "tile/0/X001/000", "tile/0/x 01/000", "tile/0/x-01/000", "tile/0/-01", "tile/0/+01", "tile/0/ 01", "tile/0/0x1", "tile/0/00a", "tile/0/x0a1/000", "tile/0/001x", "tile/0/x001/000x",
		"tile/0/x009/x007/x199/x254/x740/993", "tile/0/x009/x007/x199/x254/x741/000", "tile/0/x999/x999/x999/x999/x999/999", "tile/0/x018/x446/x744/x073/x709/x551/616", "tile/0/x018/x446/x744/x073/x709/x551/621", "tile/0/x009/x223/x372/x036/x854/x775/808",
		"tile/0/000.p/256", "tile/0/000.p/0", "tile/0/000.p/257", "tile/0/000.p/00", "tile/0/000.p/01", "tile/0/000.p/001", "tile/0/000.p/-1", "tile/0/000.p/+1", "tile/0/000.p/ 1", "tile/0/000.p/1 ", "tile/0/000.p/1/", "tile/0/000.p/", "tile/0/000.p", "tile/0/000.", "tile/0/000.p1", "tile/0/000/.p/1", "tile/0/000p/1", "tile/0/000.P/1", "tile/0/000.p//1", "tile/0/000.p/1.p/1", "tile/0/000.p/1.p", "tile/0/.p/1", "tile/.p/1", ".p/1", "tile/0.p/1", "tile/0.p/1/000", "tile/0/x001.p/1/000", "tile/0/x001/.p/1", "tile/0/000.p/x001", "tile/0/000.p/entries", "tile/0/000.p/512", "tile/0/000.p/1000", "tile/0/000.p/18446744073709551617", "tile/0/000.p/4294967297", "tile/0/000.p/a", "tile/0/000.q/1", "tile/0/000,p/1", "tile/0/000%2Ep/1",
		"tile/0/"+strings.Repeat("x000/", 10000)+"000", "tile/0/"+strings.Repeat("0", 100000), "tile/"+strings.Repeat("0", 100000)+"/000", strings.Repeat("tile/", 10000),
	)
}

// P7.3, P7.4: all short texts behind the first part, by the model.
func TestShortPaths(t *testing.T) {
	right := 0
	for s := range texts("03x/.p", 6) {
		parses(t, "tile/0/00"+s)
		if parses(t, "tile/"+s) {
			right++
		}
	}
	for s := range texts("0126x/", 6) {
		parses(t, "tile/0/"+s)
		parses(t, "tile/6"+s+"/000")
		parses(t, "tile/0/000.p/"+s)
	}
	// Levels 0, 3, 30 and 33, and three digits of two kinds.
	if right != 4*2*2*2 {
		t.Errorf("%d short paths are right", right)
	}
}

// P7.3, P7.4: a path with a fault, wherever it may stand, by the model.
func TestPathsWithAFault(t *testing.T) {
	for _, tile := range []api.Tile{
		{Level: 0, Index: 0, Width: 256}, {Level: 0, Index: 0, Width: 1}, {Level: -1, Index: 0, Width: 256}, {Level: -1, Index: 1234067, Width: 256}, {Level: 63, Index: 1000, Width: 255}, {Level: 6, Index: 999, Width: 25}, {Level: 10, Index: most, Width: 100}, {Level: 1, Index: 1000000, Width: 256}, {Level: 31, Index: 123456789012345, Width: 77},
	} {
		s := goesBoth(t, tile)
		takesEach(t, parses, s)
		for other := range spoilt(s, "0123456789x/.pentrisl -\x00\xff") {
			parses(t, other)
			// Two faults may make one right again.
			for again := range spoilt(other, "0x/2") {
				if len(other) < 18 {
					parses(t, again)
				}
			}
		}
	}
}
