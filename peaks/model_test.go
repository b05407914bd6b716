package peaks_test

import (
	"encoding/hex"
	"slices"
	"strconv"
	"strings"
	"testing"

	"pantile/digest"
	"pantile/peaks"
)

// left is the greatest power of two that is less than n.
func left(n int) int {
	k := 1
	for 2*k < n {
		k *= 2
	}
	return k
}

// tree is the tree's one of things, of which there is at least one, by its definition.
func tree[H any](join func(a, b H) H, things []H) H {
	if len(things) == 1 {
		return things[0]
	}
	k := left(len(things))
	return join(tree(join, things[:k]), tree(join, things[k:]))
}

// modelPeaks are the trees of which the things' tree is put together: whole ones, of as many things as each power of two in how many they are, the greatest first.
func modelPeaks[H any](join func(a, b H) H, things []H) (out []H) {
	for k := 1 << 20; k > 0; k /= 2 {
		if len(things)&k != 0 {
			out, things = append(out, tree(join, things[:k])), things[k:]
		}
	}
	return out
}

// modelRoot is the root of leaves' hashes by the chapter's words.
func modelRoot(hashes []string) string {
	if len(hashes) == 0 {
		return string(digest.Sum256(nil))
	}
	return tree(modelNode, hashes)
}

func modelNode(a, b string) string { return string(digest.Sum256([]byte("\x01" + a + b))) }

// brackets is a join that cares for order, and for which two are joined.
func brackets(a, b string) string { return "(" + a + b + ")" }

func added(a, b int) int { return a + b }

// behind is a join that cares for order alone.
func behind(a, b []int) []int { return slices.Concat(a, b) }

// span is a thing that tells of which things it is made, and how deep it is.
type span struct {
	from, to, deep int
	torn           bool
}

func spanned(a, b span) span {
	return span{a.from, b.to, 1 + max(a.deep, b.deep), a.torn || b.torn || a.to != b.from}
}

// many are so many things, each of which is made of its number.
func many[H any](n int, thing func(i int) H) []H {
	out := make([]H, n)
	for i := range out {
		out[i] = thing(i)
	}
	return out
}

func letter(i int) string   { return string(rune('a' + i%26)) }
func number(i int) int      { return i*i*31 - 7*i + 1 }
func list(i int) []int      { return slices.Repeat([]int{i}, i%4) }
func one(i int) span        { return span{from: i, to: i + 1} }
func leafHash(i int) string { return peaks.LeafHash([]byte(strconv.Itoa(i))) }

// sizes are numbers of things: all the small ones, and those around powers of two.
func sizes() []int {
	var out []int
	for n := range 70 {
		out = append(out, n)
	}
	for k := 128; k <= 4096; k *= 2 {
		out = append(out, k-2, k-1, k, k+1, k+2, k+k/2, k+k/2+1)
	}
	return out
}

// grown is a range of things.
func grown[H any](join func(a, b H) H, things []H) *peaks.Range[H] {
	r := peaks.New(join)
	for _, h := range things {
		r.Add(h)
	}
	return r
}

// told tells where a range is not that of the things.
func told[H any](t *testing.T, what string, r *peaks.Range[H], join func(a, b H) H, things []H, same func(a, b H) bool) {
	t.Helper()
	if r.Len() != len(things) {
		t.Errorf("%s: Len of %d things: %d", what, len(things), r.Len())
	}
	if got, want := r.Peaks(), modelPeaks(join, things); !slices.EqualFunc(got, want, same) {
		t.Errorf("%s: Peaks of %d things: %.200q, not %.200q", what, len(things), any(got), any(want))
	}
	var want H
	if len(things) > 0 {
		want = tree(join, things)
	}
	if got, ok := r.Top(); ok != (len(things) > 0) || !same(got, want) {
		t.Errorf("%s: Top of %d things: %.200q %v, not %.200q", what, len(things), any(got), ok, any(want))
	}
}

// equal tells whether two are the same.
func equal[H comparable](a, b H) bool { return a == b }

// ofDigits are the bytes of digits of sixteen, blanks between them or not, as a text.
func ofDigits(s string) string {
	b, err := hex.DecodeString(strings.ReplaceAll(s, " ", ""))
	if err != nil {
		panic(err)
	}
	return string(b)
}

// is tells where a text is not the one that was wanted.
func is(t *testing.T, what, got, want string) {
	t.Helper()
	if got != want {
		t.Errorf("%s: %x, not %x", what, got, want)
	}
}
