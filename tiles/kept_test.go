package tiles_test

import (
	"bytes"
	"slices"
	"strings"
	"testing"

	"pantile/api"
	"pantile/tiles"
)

// R4: data that are handed in are not changed, their spare room neither, and what stands there does not matter.
func TestDataAreNotChanged(t *testing.T) {
	l := hashes(40)
	all := joined(l)
	was := bytes.Clone(all)
	for n := range 41 {
		for many := 1; many <= 256; many *= 2 {
			for from := -1; from < 45; from++ {
				h, e := tiles.Node(all[:32*n], from, many)
				again, same := tiles.Node(slices.Clip(bytes.Clone(all[:32*n])), from, many)
				if h != again || e != same || !bytes.Equal(all, was) {
					t.Fatalf("Node of %d hashes with room behind, %d, %d: %x %v, else %x %v", n, from, many, h, e, again, same)
				}
			}
		}
	}
}

// R4: texts that are handed in are not changed, the list's spare room neither, and what stands there does not matter.
func TestTextsAreNotChanged(t *testing.T) {
	for _, texts := range [][]string{hashes(20), {"a", "", "bc"}, {"", ""}, slices.Repeat([]string{strings.Repeat("z", 100)}, 9)} {
		was := slices.Clone(texts)
		for n := range len(texts) + 1 {
			if b := tiles.Data(texts[:n]); !bytes.Equal(b, joined(was[:n])) || !slices.Equal(texts, was) {
				t.Errorf("Data of %d with room behind: %x, and %q is left", n, b, texts)
			}
		}
	}
}

// R4: a node is no piece of the data of which it was made: these may be changed.
func TestNodeIsNotKept(t *testing.T) {
	l := hashes(16)
	for many := 1; many <= 16; many *= 2 {
		data := joined(l)
		h, _ := tiles.Node(data, 0, many)
		for i := range data {
			data[i] ^= 255
		}
		if h != modelOne(l[:many]) {
			t.Errorf("of %d: %x once the data are changed", many, h)
		}
	}
}

// R4: bytes are no piece of the texts that were handed in: what is done to them leaves these as they were.
func TestDataAreNoPiece(t *testing.T) {
	for _, texts := range [][]string{hashes(1), {strings.Repeat("a", 1000)}, {"", strings.Repeat("b", 3), ""}, hashes(3)} {
		want := joined(texts)
		b := tiles.Data(texts)
		for i := range b {
			b[i] ^= 255
		}
		if !bytes.Equal(joined(texts), want) {
			t.Errorf("Data of %d texts: a piece of what was handed in", len(texts))
		}
	}
}

// R4: bytes that are handed out are new, their spare room too.
func TestDataAreNew(t *testing.T) {
	for _, l := range [][]string{nil, {}, hashes(1), hashes(5), {"a", "bc"}, {""}} {
		want := joined(l)
		first, second := tiles.Data(l), tiles.Data(l)
		all := first[:cap(first)]
		for i := range all {
			all[i] ^= 255
		}
		if !bytes.Equal(second, want) || !bytes.Equal(tiles.Data(l), want) {
			t.Errorf("Data of %d texts: %x", len(l), second)
		}
	}
}

// R4: tiles that are handed out are new, their spare room too.
func TestTilesAreNew(t *testing.T) {
	spoil := func(l []api.Tile) {
		l = l[:cap(l)]
		for i := range l {
			l[i] = api.Tile{Level: 77, Index: 77, Width: 77}
		}
	}
	for _, n := range edges() {
		want := modelAll(n)
		first, second := tiles.All(n), tiles.All(n)
		spoil(first)
		same(t, "All told ahead", second, want)
		same(t, "All told behind", tiles.All(n), want)
		news := tiles.News(0, n)
		spoil(second)
		same(t, "News told ahead", news, want)
		spoil(news)
		same(t, "News told behind", tiles.News(0, n), want)
		same(t, "All behind News", tiles.All(n), want)
		m := n - n%256 - n%7
		if m >= 0 {
			first, second = tiles.News(m, n), tiles.News(m, n)
			spoil(first)
			same(t, "News told ahead", second, modelNews(m, n))
			same(t, "News told behind", tiles.News(m, n), modelNews(m, n))
		}
	}
}

// R2, R5: a call that was refused changes nothing of the next, nor does another's.
func TestRefusedChangesNothing(t *testing.T) {
	l := hashes(12)
	data := joined(l)
	for range 3 {
		for _, n := range others() {
			tiles.All(n)
			tiles.News(n, 300)
			tiles.News(300, n)
			width(t, n, 0, 0, 0)
			notPlaced(t, n, -1)
			makesNone(t, data, n|1, 2, api.ErrRange)
		}
		makesNone(t, data, 12, 4, api.ErrShort)
		makesNone(t, data, 3, 2, api.ErrRange)
		makes(t, data, 8, 4, modelOne(l[8:]))
		makes(t, data, 2, 1, l[2])
		same(t, "All", tiles.All(257), modelAll(257))
		same(t, "All", tiles.All(3), modelAll(3))
		same(t, "News", tiles.News(3, 257), modelNews(3, 257))
		width(t, 257, 0, 1, 1)
		placed(t, 3, 5, api.Tile{Level: 0, Index: 0, Width: 48}, 40)
	}
}
