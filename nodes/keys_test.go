package nodes_test

import (
	"encoding/hex"
	"fmt"
	"math"
	"slices"
	"strings"
	"testing"

	"pantile/nodes"
)

// numbers are of each many digits, around each power of ten and of two, and below 0.
func numbers() []int {
	out := []int{math.MinInt, math.MinInt + 1, -10000000, -12, math.MaxInt - 1, math.MaxInt}
	for n := -3; n < 1200; n++ {
		out = append(out, n)
	}
	for by := -2; by <= 2; by++ {
		for n := 1; n < math.MaxInt/10; n *= 10 {
			out = append(out, 10*n+by, -10*n+by, 7*n+by)
		}
		for shift := range 63 {
			out = append(out, 1<<shift+by, -1<<shift+by)
		}
	}
	return out
}

// P15.1: the number key of numbers of all lengths, and of those below 0 that of 0.
func TestNumbers(t *testing.T) {
	for n, want := range map[int]string{
		0: "0000000", 7: "0000007", 10: "0000010", 999999: "0999999", 1000000: "1000000", 9999999: "9999999", 10000000: "10000000", 10000001: "10000001",
		math.MaxInt: "9223372036854775807", -1: "0000000", -10000000: "0000000", math.MinInt: "0000000",
	} {
		if got := nodes.Number(n); got != want {
			t.Errorf("Number(%d): %q", n, got)
		}
	}
	for _, n := range numbers() {
		if got, want := nodes.Number(n), fmt.Sprintf("%07d", max(n, 0)); got != want {
			t.Errorf("Number(%d): %q, not %q", n, got, want)
		}
	}
}

// P15.1: the keys of leaves, of staged leaves and of heads are their letters and the number key.
func TestKeysOfOneNumber(t *testing.T) {
	for _, n := range numbers() {
		key := fmt.Sprintf("%07d", max(n, 0))
		for _, c := range []struct{ got, want string }{{nodes.Leaf(n), "l/" + key}, {nodes.Staged(n), "p/" + key}, {nodes.Head(n), "h/" + key}} {
			if c.got != c.want {
				t.Errorf("of %d: %q, not %q", n, c.got, c.want)
			}
		}
	}
}

// P15.1: the keys of nodes have the level in two digits, above 99 in all of them, and the index's number key.
func TestNodes(t *testing.T) {
	for _, c := range []struct {
		level, index int
		want         string
	}{
		{3, 12, "n/03/0000012"}, {0, 0, "n/00/0000000"}, {9, 1, "n/09/0000001"}, {10, 2, "n/10/0000002"}, {99, 9999999, "n/99/9999999"},
		{100, 10000000, "n/100/10000000"}, {1234567, 3, "n/1234567/0000003"}, {math.MaxInt, math.MaxInt, "n/9223372036854775807/9223372036854775807"},
		{-1, 5, "n/00/0000005"}, {5, -1, "n/05/0000000"}, {-1, -1, "n/00/0000000"}, {math.MinInt, math.MinInt, "n/00/0000000"},
	} {
		if got := nodes.Node(c.level, c.index); got != c.want {
			t.Errorf("Node(%d, %d): %q", c.level, c.index, got)
		}
	}
	for _, level := range append(numbers()[:130], math.MaxInt, 1<<32, 100000) {
		for _, index := range numbers() {
			if got, want := nodes.Node(level, index), modelKey(max(level, 0), max(index, 0)); got != want {
				t.Errorf("Node(%d, %d): %q, not %q", level, index, got, want)
			}
		}
	}
}

// P15.1: the key of a hash has its digits of sixteen, of whatever bytes, and however many.
func TestHashes(t *testing.T) {
	all := make([]byte, 256)
	for i := range all {
		all[i] = byte(i)
	}
	whole := string(all)
	for _, h := range []string{"", "\x00", "\xff", "a", "\x01\xff", whole, whole[:32], whole[224:], whole[200:231], whole[100:133], sum("a"), strings.Repeat("\x0f\xf0", 500), "é\x80", "i/00"} {
		if got, want := nodes.Hash(h), "i/"+hex.EncodeToString([]byte(h)); got != want {
			t.Errorf("Hash of %q: %q", h, got)
		}
	}
	if nodes.Hash("\x01\xff") != "i/01ff" || nodes.Hash("") != "i/" {
		t.Error("known ones")
	}
}

// P15.1: keys of numbers up to 9999999 rise as the numbers do, and each thing has a key of its own.
func TestKeysRise(t *testing.T) {
	for _, key := range []func(int) string{nodes.Number, nodes.Leaf, nodes.Staged, nodes.Head, func(n int) string { return nodes.Node(n/100000, n%100000) }} {
		var keys []string
		for n := 0; n < 10000000; n += 997 {
			keys = append(keys, key(n))
		}
		if !slices.IsSorted(keys) || len(slices.Compact(keys)) != len(keys) {
			t.Errorf("keys from %q on do not rise", keys[0])
		}
	}
}
