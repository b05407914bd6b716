package nodes

import (
	"strconv"
	"strings"

	"pantile/b64"
)

const (
	numberDigits = 7
	levelDigits  = 2
)

// Number is a number key.
func Number(n int) string { return numberKey(atLeastNought(n)) }

// Leaf is a leaf's key.
func Leaf(index int) string { return "l/" + Number(index) }

// Node is a node's key.
func Node(level, index int) string { return nodeKey(level, atLeastNought(index)) }

// Hash is the key of a leaf's hash.
func Hash(h string) string { return "i/" + b64.Hex([]byte(h)) }

// Staged is a staged leaf's key.
func Staged(index int) string { return "p/" + Number(index) }

// Head is a head's key.
func Head(size int) string { return "h/" + Number(size) }

func nodeKey(level int, index uint) string {
	return "n/" + padded(atLeastNought(level), levelDigits) + "/" + numberKey(index)
}

func numberKey(n uint) string { return padded(n, numberDigits) }

// padded is a number's digits, with noughts ahead where they are less than so many: so keys rise as their numbers do.
func padded(n uint, least int) string {
	digits := strconv.FormatUint(uint64(n), 10)
	return strings.Repeat("0", max(0, least-len(digits))) + digits
}

func atLeastNought(n int) uint { return uint(max(0, n)) }
