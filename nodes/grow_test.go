package nodes_test

import (
	"math"
	"math/bits"
	"slices"
	"strconv"
	"testing"

	"pantile/api"
	"pantile/nodes"
)

// same tells where writes and peaks are not those that they must be.
func same(t *testing.T, what string, writes, wantWrites []api.Write, peaks, wantPeaks []string) {
	t.Helper()
	if !slices.Equal(writes, wantWrites) {
		t.Errorf("%s: %d writes %v, not %d %v", what, len(writes), writes, len(wantWrites), wantWrites)
	}
	if !slices.Equal(peaks, wantPeaks) {
		t.Errorf("%s: peaks %x, not %x", what, peaks, wantPeaks)
	}
}

// P15.2: trees of all sizes that grow by none, by one, and by many: the nodes are those that the definition says are whole then and were not ahead, in their order, and the peaks are the grown tree's.
func TestGrow(t *testing.T) {
	all := leaves(1100)
	for _, n := range sizes() {
		peaks := modelPeaks(all[:n])
		for _, by := range []int{0, 1, 2, 3, 4, 5, 7, 8, 9, 31, 64, n, 500} {
			writes, now := nodes.Grow(n, peaks, all[n:n+by])
			same(t, strconv.Itoa(n)+" by "+strconv.Itoa(by), writes, modelWrites(n, all[:n+by]), now, modelPeaks(all[:n+by]))
		}
	}
}

// P15.2: a tree that grows in two parts, or one by one, has the same as one that grows at once.
func TestGrowInParts(t *testing.T) {
	all := leaves(140)
	for _, n := range []int{0, 1, 2, 3, 7, 8, 9, 63, 64, 65} {
		start := modelPeaks(all[:n])
		writes, now := nodes.Grow(n, start, all[n:])
		for cut := n; cut <= len(all); cut++ {
			first, between := nodes.Grow(n, start, all[n:cut])
			second, last := nodes.Grow(cut, between, all[cut:])
			same(t, "cut at "+strconv.Itoa(cut), append(first, second...), writes, last, now)
		}
		var one []api.Write
		peaks := start
		for k := n; k < len(all); k++ {
			var w []api.Write
			w, peaks = nodes.Grow(k, peaks, all[k:k+1])
			one = append(one, w...)
		}
		same(t, "one by one", one, writes, peaks, now)
	}
}

// P15.2: peaks and hashes are taken as they are, of whatever bytes, and however many.
func TestGrowOfAnyTexts(t *testing.T) {
	texts := []string{"", "a", "\x00\xff", "", sum("b"), sum("c") + "d", "a", string(make([]byte, 1000))}
	for n := range 300 {
		peaks := texts[:bits.OnesCount(uint(n))]
		for by := range texts {
			writes, now := nodes.Grow(n, peaks, texts[by:])
			wantWrites, want := bigGrow(n, peaks, texts[by:])
			same(t, "any texts", writes, wantWrites, now, want)
		}
	}
}

// P15.2: trees of so many leaves that there can be none, up to the greatest int, and beyond it.
func TestGrowOfGreatNumbers(t *testing.T) {
	some := leaves(70)
	great := []int{math.MaxInt, math.MaxInt - 1, math.MaxInt - 2, math.MaxInt - 8, math.MaxInt >> 1, math.MaxInt>>1 + 1, 0x5555555555555555, 9999999, 9999998, 10000000, 99999999}
	for shift := range 63 {
		great = append(great, 1<<shift-1, 1<<shift, 1<<shift+1)
	}
	for _, n := range great {
		peaks := some[:bits.OnesCount(uint(n))]
		for by := range 6 {
			writes, now := nodes.Grow(n, peaks, some[64:64+by])
			wantWrites, want := bigGrow(n, peaks, some[64:64+by])
			same(t, strconv.Itoa(n), writes, wantWrites, now, want)
		}
	}
}

// P15.2: where peaks are fewer, or more, than the ones among n's bits, there are no writes and no peaks; so there are none of a number below 0, however many peaks.
func TestGrowOfWrongPeaks(t *testing.T) {
	some := leaves(80)
	for _, n := range append(sizes(), 1<<20, math.MaxInt, math.MaxInt-1, 1<<62) {
		for many := range 70 {
			if many == bits.OnesCount(uint(n)) {
				continue
			}
			for _, by := range []int{0, 1, 5} {
				writes, now := nodes.Grow(n, some[:many], some[70:70+by])
				same(t, strconv.Itoa(n)+" with "+strconv.Itoa(many), writes, nil, now, nil)
			}
		}
	}
	for _, n := range []int{-1, -2, -3, -8, -1 << 20, math.MinInt, math.MinInt + 1, math.MinInt + 7} {
		for many := range 70 {
			for _, by := range []int{0, 1, 5} {
				writes, now := nodes.Grow(n, some[:many], some[70:70+by])
				same(t, strconv.Itoa(n)+" with "+strconv.Itoa(many), writes, nil, now, nil)
			}
		}
	}
}

// P15.2, R4: of no leaves and no hashes, nil or empty, nothing.
func TestGrowOfNothing(t *testing.T) {
	for _, peaks := range [][]string{nil, {}} {
		for _, hashes := range [][]string{nil, {}} {
			writes, now := nodes.Grow(0, peaks, hashes)
			same(t, "nothing", writes, nil, now, nil)
		}
		writes, now := nodes.Grow(0, peaks, []string{"a"})
		same(t, "one", writes, []api.Write{{Key: "n/00/0000000", Value: "a"}}, now, []string{"a"})
	}
}

// The chapter's examples.
func TestExamples(t *testing.T) {
	if key := nodes.Node(3, 12); key != "n/03/0000012" {
		t.Errorf("%q", key)
	}
	writes, now := nodes.Grow(1, []string{"a"}, []string{"b"})
	same(t, "example", writes, []api.Write{{Key: "n/00/0000001", Value: "b"}, {Key: "n/01/0000000", Value: modelJoin("a", "b")}}, now, []string{modelJoin("a", "b")})
}
