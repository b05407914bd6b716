package tiles_test

import (
	"bytes"
	"encoding/hex"
	"math"
	"math/big"
	"slices"
	"strings"
	"testing"

	"pantile/api"
	"pantile/tiles"
)

const mostIndex = 1 << 40

// modelPlace is where a node is, by the leaves of which it is: those of a hash of the tile's level are 256 to the power of that level.
func modelPlace(level, index int) (api.Tile, int) {
	of := level / 8
	span := new(big.Int).Exp(big.NewInt(256), big.NewInt(int64(of)), nil)
	leaves := new(big.Int).Exp(big.NewInt(2), big.NewInt(int64(level)), nil)
	begin := new(big.Int).Mul(big.NewInt(int64(index)), leaves)
	end := new(big.Int).Add(begin, leaves)
	first, last := new(big.Int).Div(begin, span), new(big.Int).Div(end, span)
	tile, from := new(big.Int).DivMod(first, big.NewInt(256), new(big.Int))
	behind := new(big.Int).Sub(last, new(big.Int).Mul(tile, big.NewInt(256)))
	return api.Tile{Level: of, Index: int(tile.Int64()), Width: int(behind.Int64())}, int(from.Int64())
}

// P12.2: places, written out.
func TestKnownPlaces(t *testing.T) {
	for _, c := range []struct{ level, index, of, tile, width, from int }{
		{3, 5, 0, 0, 48, 40},
		{0, 0, 0, 0, 1, 0}, {0, 1, 0, 0, 2, 1}, {0, 255, 0, 0, 256, 255}, {0, 256, 0, 1, 1, 0}, {0, 300, 0, 1, 45, 44}, {0, mostIndex, 0, 1 << 32, 1, 0}, {0, mostIndex - 1, 0, 1<<32 - 1, 256, 255},
		{1, 0, 0, 0, 2, 0}, {1, 127, 0, 0, 256, 254}, {1, 128, 0, 1, 2, 0},
		{7, 0, 0, 0, 128, 0}, {7, 1, 0, 0, 256, 128}, {7, 2, 0, 1, 128, 0}, {7, 3, 0, 1, 256, 128}, {7, mostIndex, 0, 1 << 39, 128, 0}, {7, mostIndex - 1, 0, 1<<39 - 1, 256, 128},
		{8, 0, 1, 0, 1, 0}, {8, 5, 1, 0, 6, 5}, {8, 255, 1, 0, 256, 255}, {8, 256, 1, 1, 1, 0}, {8, mostIndex, 1, 1 << 32, 1, 0}, {8, mostIndex - 1, 1, 1<<32 - 1, 256, 255},
		{11, 40, 1, 1, 72, 64},
		{15, 0, 1, 0, 128, 0}, {15, 1, 1, 0, 256, 128}, {15, mostIndex, 1, 1 << 39, 128, 0}, {15, mostIndex - 1, 1, 1<<39 - 1, 256, 128},
		{16, 0, 2, 0, 1, 0}, {16, 15, 2, 0, 16, 15}, {16, mostIndex, 2, 1 << 32, 1, 0}, {16, mostIndex - 1, 2, 1<<32 - 1, 256, 255},
		{20, 0, 2, 0, 16, 0}, {20, 1, 2, 0, 32, 16},
		{39, 0, 4, 0, 128, 0}, {39, mostIndex, 4, 1 << 39, 128, 0},
		{40, 0, 5, 0, 1, 0}, {40, 1, 5, 0, 2, 1}, {40, 257, 5, 1, 2, 1}, {40, mostIndex - 1, 5, 1<<32 - 1, 256, 255}, {40, mostIndex, 5, 1 << 32, 1, 0},
	} {
		placed(t, c.level, c.index, api.Tile{Level: c.of, Index: c.tile, Width: c.width}, c.from)
	}
}

// P12.2: places by the leaves of nodes, at all levels, of the least indices, the greatest, those around powers of two, and some by chance.
func TestPlacesByDefinition(t *testing.T) {
	indices := []int{}
	for i := range 1100 {
		indices = append(indices, i, mostIndex-i)
	}
	for bits := range 41 {
		indices = append(indices, max(1<<bits-1, 0), 1<<bits, min(1<<bits+1, mostIndex))
	}
	c := chance()
	for range 500 {
		indices = append(indices, c.Intn(mostIndex+1), c.Intn(1<<c.Intn(41)))
	}
	for level := range 41 {
		for _, index := range indices {
			tile, from := modelPlace(level, index)
			placed(t, level, index, tile, from)
		}
	}
}

// P12.2: of a node that there is in no place, ErrRange alone.
func TestNoPlaces(t *testing.T) {
	far := []int{math.MinInt, math.MinInt + 1, -1 << 62, -1 << 56, -1 << 40, -256, -8, -2, -1}
	levels := append(slices.Clone(far), 41, 42, 47, 48, 63, 64, 65, 72, 104, 255, 256, 1<<32+1, 1<<40, 1<<61, 1<<62, math.MaxInt)
	indices := append(slices.Clone(far), mostIndex+1, mostIndex+2, mostIndex+256, 2*mostIndex, 1<<53, 1<<56, 1<<57, 1<<62, math.MaxInt-1, math.MaxInt)
	for _, level := range levels {
		for _, index := range append(indices, 0, 1, 5, 256, mostIndex) {
			notPlaced(t, level, index)
		}
	}
	for level := range 41 {
		for _, index := range indices {
			notPlaced(t, level, index)
		}
	}
}

// P12.3: what others reckoned of known leaves: hashes themselves, and what two, four and eight of them make.
func TestKnownNodes(t *testing.T) {
	var l []string
	for _, leaf := range []string{"", "00", "10", "2021", "3031", "40414243", "5051525354555657", "606162636465666768696a6b6c6d6e6f"} {
		l = append(l, sum("\x00", ofDigits(leaf)))
	}
	data := tiles.Data(l)
	makes(t, data, 0, 1, ofDigits("6e340b9cffb37a989ca544e6bb780a2c78901d3fb33738768511a30617afa01d"))
	makes(t, data, 1, 1, ofDigits("96a296d224f285c67bee93c30f8a309157f0daa35dc5b87e410b78630a09cfc7"))
	makes(t, data, 0, 2, ofDigits("fac54203e7cc696cf0dfcb42c92a1d9dbaf70ad9e621f4bd8d98662f00e3c125"))
	makes(t, data, 2, 2, ofDigits("5f083f0a1a33ca076a95279832580db3e0ef4584bdff1f54c8a360f50de3031e"))
	makes(t, data, 4, 2, ofDigits("0ebc5d3437fbe2db158b9f126a1d118e308181031d0a949f8dededebc558ef6a"))
	makes(t, data, 6, 2, ofDigits("ca854ea128ed050b41b35ffc1b87b8eb2bde461e9e3b5596ece6b9d5975a0ae0"))
	makes(t, data, 0, 4, ofDigits("d37ee418976dd95753c1c73862b9398fa2a2cf9b4ff0fdfe8b30cd95209614b7"))
	makes(t, data, 4, 4, ofDigits("6b47aaf29ee3c2af9af889bc1fb9254dabd31177f16232dd6aab035ca39bf6e4"))
	makes(t, data, 0, 8, ofDigits("5dc9da79a70659a9ad559cb701ded9a2ab9d823aad2f4960cfe370eff4604328"))
}

func ofDigits(s string) string {
	b, err := hex.DecodeString(s)
	if err != nil {
		panic(err)
	}
	return string(b)
}

// P12.3: all that hashes of a tile of each of some widths make; at the last place that there is, and one behind.
func TestNodesByDefinition(t *testing.T) {
	l := hashes(256)
	for _, width := range []int{0, 1, 2, 3, 4, 5, 7, 8, 9, 31, 63, 64, 65, 127, 128, 129, 192, 254, 255, 256} {
		data := joined(l[:width])
		for many := 1; many <= 256; many *= 2 {
			from := 0
			for ; from+many <= width; from += many {
				makes(t, data, from, many, modelOne(l[from:from+many]))
			}
			for range 5 {
				makesNone(t, data, from, many, api.ErrShort)
				from += many
			}
		}
	}
}

// P12.3: ErrShort alone, of data that end ahead of the last byte, wherever; no byte behind it matters.
func TestDataThatEndTooSoon(t *testing.T) {
	l := hashes(20)
	all := joined(l)
	for many := 1; many <= 16; many *= 2 {
		for from := 0; from+many <= 20; from += many {
			want, end := modelOne(l[from:from+many]), 32*(from+many)
			for n := range len(all) + 1 {
				if n < end {
					makesNone(t, all[:n], from, many, api.ErrShort)
				} else {
					makes(t, all[:n], from, many, want)
				}
			}
		}
	}
	for many := 1; many <= 256; many *= 2 {
		for _, data := range [][]byte{nil, {}, {1}, make([]byte, 31)} {
			makesNone(t, data, 0, many, api.ErrShort)
			makesNone(t, data, many, many, api.ErrShort)
		}
	}
}

// P12.3: ErrRange alone, of a number that is no power of two up to 256.
func TestNumbersThatMakeNothing(t *testing.T) {
	data := joined(hashes(256))
	numbers := []int{math.MinInt, math.MinInt + 1, -1 << 32, -512, -256, -128, -4, -3, -2, -1, 0, 512, 1024, 4096, 1 << 16, 1 << 32, 1<<32 + 1, 1 << 58, 1 << 59, 1 << 62, math.MaxInt}
	for n := range 600 {
		if !slices.Contains([]int{1, 2, 4, 8, 16, 32, 64, 128, 256}, n) {
			numbers = append(numbers, n)
		}
	}
	for _, many := range numbers {
		for _, from := range []int{0, many, 2 * many, 1, 2, 4, 256, -1, -many, math.MinInt, math.MaxInt} {
			makesNone(t, data, from, many, api.ErrRange)
			makesNone(t, nil, from, many, api.ErrRange)
		}
	}
}

// P12.3: ErrRange alone, ahead of ErrShort, of a place that is no multiple, or below 0.
func TestPlacesThatMakeNothing(t *testing.T) {
	data := joined(hashes(256))
	for many := 1; many <= 256; many *= 2 {
		for from := range 700 {
			if from%many != 0 {
				makesNone(t, data, from, many, api.ErrRange)
				makesNone(t, data[:32*many-1], from, many, api.ErrRange)
				makesNone(t, nil, from, many, api.ErrRange)
			}
		}
		for _, from := range []int{-1, -2, -many, -2 * many, -256, -1 << 32, -1 << 58, -1 << 59, math.MinInt, math.MinInt + many, math.MinInt + 1} {
			makesNone(t, data, from, many, api.ErrRange)
			makesNone(t, nil, from, many, api.ErrRange)
		}
		if many > 1 {
			makesNone(t, data, math.MaxInt, many, api.ErrRange)
			makesNone(t, data, 1<<59+1, many, api.ErrRange)
		}
	}
}

// P12.3: ErrShort alone, of places far behind, among them such as a product or a sum would bring round.
func TestPlacesFarBehind(t *testing.T) {
	data := joined(hashes(256))
	for many := 1; many <= 256; many *= 2 {
		for _, from := range []int{256, 512, 1 << 12, 1 << 31, 1 << 32, 1 << 53, 1 << 57, 1 << 58, 1<<58 + 256, 1 << 59, 1<<59 + 256, 1 << 60, 1 << 61, 1 << 62, 1<<62 + 1<<59, math.MaxInt - many + 1, math.MaxInt - 2*many + 1} {
			makesNone(t, data, from, many, api.ErrShort)
			makesNone(t, nil, from, many, api.ErrShort)
		}
	}
	makesNone(t, data, math.MaxInt, 1, api.ErrShort)
}

// P12.3: each hash and the order of all matter to what they make, and no other hash.
func TestWhatMakesANode(t *testing.T) {
	l := hashes(32)
	for many := 1; many <= 16; many *= 2 {
		was, e := tiles.Node(joined(l), many, many)
		if e != api.OK {
			t.Fatal(e)
		}
		for at := range l {
			for _, bit := range []int{0, 255} {
				data := joined(l)
				data[32*at+bit/8] ^= 1 << (bit % 8)
				if h, _ := tiles.Node(data, many, many); (h == was) != (at < many || at >= 2*many) {
					t.Errorf("of %d from %d on: a bit of that at %d", many, many, at)
				}
			}
			turned := slices.Clone(l)
			turned[at], turned[(at+1)%32] = turned[(at+1)%32], turned[at]
			makes(t, joined(turned), many, many, modelOne(turned[many:2*many]))
		}
	}
}

// P12.3: the bytes of hashes: of none, of one, of many.
func TestDataOfHashes(t *testing.T) {
	for _, l := range [][]string{nil, {}} {
		if b := tiles.Data(l); len(b) != 0 {
			t.Errorf("of none: %x", b)
		}
	}
	l := hashes(513)
	for n := range 514 {
		b := tiles.Data(l[:n])
		if len(b) != 32*n || !bytes.Equal(b, joined(l[:n])) {
			t.Errorf("Data of %d: %d bytes", n, len(b))
		}
		for at := range n {
			if string(b[32*at:32*at+32]) != l[at] {
				t.Errorf("Data of %d: not that at %d", n, at)
			}
		}
	}
}

// P12.3: texts that are not of 32 bytes are taken as they are.
func TestDataOfOtherTexts(t *testing.T) {
	long := strings.Repeat("x", 100000)
	for _, c := range []struct {
		l    []string
		want string
	}{
		{[]string{""}, ""}, {[]string{"", "", ""}, ""}, {[]string{"a"}, "a"}, {[]string{"a", "", "bc", "\x00", "\xff\xfe"}, "abc\x00\xff\xfe"}, {[]string{"bc", "a"}, "bca"}, {[]string{"é", "\n", " "}, "é\n "},
		{[]string{strings.Repeat("a", 31)}, strings.Repeat("a", 31)}, {[]string{strings.Repeat("a", 33), "b"}, strings.Repeat("a", 33) + "b"}, {[]string{long, "b", long}, long + "b" + long},
		{[]string{modelHash(1), "b", modelHash(2)}, modelHash(1) + "b" + modelHash(2)}, {slices.Repeat([]string{"ab"}, 1000), strings.Repeat("ab", 1000)},
	} {
		if b := tiles.Data(c.l); string(b) != c.want {
			t.Errorf("Data of %d texts: %.100q, not %.100q", len(c.l), b, c.want)
		}
	}
}
