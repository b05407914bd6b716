package tiles_test

import (
	"crypto/sha256"
	"math/rand"
	"slices"
	"strconv"
	"testing"

	"pantile/api"
	"pantile/tiles"
)

const (
	mostLeaves = 1 << 20
	inTile     = 256
)

// spans are of how many leaves one is in the tiles of the levels -1, 0, 1 and 2; of those above it is more than there may be.
func spans() []int { return []int{1, 1, inTile, inTile * inTile} }

// modelAll are the tiles of n leaves, that may be: of each level as many as there are, taken away tile by tile.
func modelAll(n int) (out []api.Tile) {
	for i, span := range spans() {
		for at, left := 0, n/span; left > 0; at, left = at+1, left-inTile {
			out = append(out, api.Tile{Level: i - 1, Index: at, Width: min(left, inTile)})
		}
	}
	return out
}

// modelWidth is how many a tile has: of its 256 those whose last leaf is there, counted one by one.
func modelWidth(n, level, index int) (width int) {
	if n < 0 || n > mostLeaves || level < -1 || level > 2 || index < 0 || index > mostLeaves/inTile {
		return 0
	}
	for k := inTile * index; k < inTile*(index+1); k++ {
		if (k+1)*spans()[level+1] <= n {
			width++
		}
	}
	return width
}

// modelNews are the tiles of n leaves that are not among those of m.
func modelNews(m, n int) (out []api.Tile) {
	had := map[api.Tile]int{}
	for _, t := range modelAll(m) {
		had[t]++
	}
	for _, t := range modelAll(n) {
		if had[t] == 0 {
			out = append(out, t)
		}
	}
	return out
}

func sum(parts ...string) string {
	h := sha256.New()
	for _, p := range parts {
		h.Write([]byte(p))
	}
	return string(h.Sum(nil))
}

func modelHash(of int) string { return sum("\x00", strconv.Itoa(of)) }

func modelJoin(a, b string) string { return sum("\x01", a, b) }

// hashes are those of so many leaves.
func hashes(n int) []string {
	out := make([]string, n)
	for i := range out {
		out[i] = modelHash(i)
	}
	return out
}

// modelOne is what hashes make, as many as a power of two.
func modelOne(l []string) string {
	if len(l) == 1 {
		return l[0]
	}
	return modelJoin(modelOne(l[:len(l)/2]), modelOne(l[len(l)/2:]))
}

// modelTree are the nodes of leaves' hashes, level by level, as far as there are any.
func modelTree(leaves []string) [][]string {
	rows := [][]string{leaves}
	for row := leaves; len(row) > 1; rows = append(rows, row) {
		var next []string
		for i := 1; i < len(row); i += 2 {
			next = append(next, modelJoin(row[i-1], row[i]))
		}
		row = next
	}
	return rows
}

// joined are hashes' bytes, one behind the other.
func joined(l []string) (out []byte) {
	for _, h := range l {
		for i := range len(h) {
			out = append(out, h[i])
		}
	}
	return out
}

// edges are numbers of leaves at which tiles or levels begin and end.
func edges() []int {
	return []int{
		0, 1, 2, 3, 5, 128, 254, 255, 256, 257, 258, 511, 512, 513, 767, 768, 769, 1000, 65279, 65280, 65281, 65534, 65535, 65536, 65537, 65538, 65791, 65792, 65793, 70000,
		131071, 131072, 131073, 131327, 131328, 524287, 524288, 524289, mostLeaves - 65537, mostLeaves - 65536, mostLeaves - 65535, mostLeaves - 257, mostLeaves - 256, mostLeaves - 255, mostLeaves - 2, mostLeaves - 1, mostLeaves,
	}
}

// others are numbers that no n or m may be.
func others() []int {
	const least, most = -1 << 63, 1<<63 - 1
	return []int{least, least + 1, -1 << 53, -1 << 32, -1<<32 + 300, -mostLeaves, -65536, -257, -256, -255, -2, -1, mostLeaves + 1, mostLeaves + 2, mostLeaves + 256, 2 * mostLeaves, 1 << 24, 1 << 32, 1<<32 + 300, 1 << 40, 1 << 53, 1 << 62, most - 1, most}
}

// chance is always the same.
func chance() *rand.Rand { return rand.New(rand.NewSource(12)) }

// same tells where tiles are not those that were wanted.
func same(t *testing.T, what string, got, want []api.Tile) {
	t.Helper()
	if slices.Equal(got, want) {
		return
	}
	at := 0
	for at < len(got) && at < len(want) && got[at] == want[at] {
		at++
	}
	t.Errorf("%s: %d tiles, not %d; from %d on %v, not %v", what, len(got), len(want), at, got[at:min(at+3, len(got))], want[at:min(at+3, len(want))])
}

// width tells where a tile has not so many.
func width(t *testing.T, n, level, index, want int) {
	t.Helper()
	if got := tiles.Width(n, level, index); got != want {
		t.Errorf("Width(%d, %d, %d): %d, not %d", n, level, index, got, want)
	}
}

// placed tells where a node is not where it was wanted.
func placed(t *testing.T, level, index int, tile api.Tile, from int) {
	t.Helper()
	if x, at, e := tiles.Place(level, index); x != tile || at != from || e != api.OK {
		t.Errorf("Place(%d, %d): %v %d %v, not %v %d", level, index, x, at, e, tile, from)
	}
}

// notPlaced tells where a node is not out of range.
func notPlaced(t *testing.T, level, index int) {
	t.Helper()
	if x, at, e := tiles.Place(level, index); x != (api.Tile{}) || at != 0 || e != api.ErrRange {
		t.Errorf("Place(%d, %d): %v %d %v", level, index, x, at, e)
	}
}

// makes tells where what a tile's hashes make is not what was wanted.
func makes(t *testing.T, data []byte, from, many int, want string) {
	t.Helper()
	if h, e := tiles.Node(data, from, many); h != want || e != api.OK {
		t.Errorf("Node of %d bytes, %d, %d: %x %v, not %x", len(data), from, many, h, e, want)
	}
}

// makesNone tells where there is not that error alone.
func makesNone(t *testing.T, data []byte, from, many int, want api.Errno) {
	t.Helper()
	if h, e := tiles.Node(data, from, many); h != "" || e != want {
		t.Errorf("Node of %d bytes, %d, %d: %x %v, not %v", len(data), from, many, h, e, want)
	}
}
