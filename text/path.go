package text

import (
	"strings"

	"pantile/api"
)

const (
	root      = "tile/"
	entries   = "entries"
	between   = "/"
	part      = ".p/"
	goesOn    = "x"
	pieceSize = 3
)

const (
	ofEntries = -1
	mostLevel = 63
)

// Path is a tile's path.
func Path(t api.Tile) (string, api.Errno) {
	if !within(t.Level, ofEntries, mostLevel) || !within(t.Index, 0, mostNumber) || !within(t.Width, 1, api.TileWidth) {
		return "", api.ErrArg
	}
	level := entries
	if t.Level != ofEntries {
		level = Decimal(t.Level)
	}
	path := root + level + between + numberPath(t.Index)
	if t.Width < api.TileWidth {
		path += part + Decimal(t.Width)
	}
	return path, api.OK
}

// Parse is the tile of a path.
func Parse(s string) (api.Tile, api.Errno) {
	t := guess(s)
	// So each tile has one path alone: the one that is written.
	if path, e := Path(t); e != api.OK || path != s {
		return api.Tile{}, api.ErrForm
	}
	return t, api.OK
}

// numberPath is a number's path.
func numberPath(n int) string {
	digits := Decimal(n)
	for len(digits)%pieceSize != 0 {
		digits = "0" + digits
	}
	path := ""
	for len(digits) > pieceSize {
		path += goesOn + digits[:pieceSize] + between
		digits = digits[pieceSize:]
	}
	return path + digits
}

// guess is the tile that a text is the path of, if it is one's; else it may be any.
func guess(s string) api.Tile {
	level, rest, _ := strings.Cut(strings.TrimPrefix(s, root), between)
	index, width, isPart := strings.Cut(rest, part)
	t := api.Tile{Level: ofDigits(level), Index: ofDigits(index), Width: api.TileWidth}
	if level == entries {
		t.Level = ofEntries
	}
	if isPart {
		t.Width = ofDigits(width)
	}
	return t
}
