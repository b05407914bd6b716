package peaks_test

import (
	"slices"
	"strings"
	"testing"

	"pantile/digest"
	"pantile/peaks"
)

// P9.2: hashes of leaves, of no bytes, of one, and of many, that others reckoned.
func TestKnownLeafHashes(t *testing.T) {
	row := make([]byte, 256)
	for i := range row {
		row[i] = byte(i)
	}
	for _, c := range []struct {
		leaf []byte
		want string
	}{
		{nil, "6e340b9cffb37a989ca544e6bb780a2c78901d3fb33738768511a30617afa01d"},
		{[]byte{}, "6e340b9cffb37a989ca544e6bb780a2c78901d3fb33738768511a30617afa01d"},
		{[]byte("a"), "022a6979e6dab7aa5ae4c3e5e45f7e977112a7e63593820dbec1ec738a24f93c"},
		{[]byte(strings.Repeat("a", 1000)), "7489c42b058d685ce40b6514d41ca13c8ff13a6347d5d2b44ad97fd485290f39"},
		{row, "cba728a54258ebaac600cd894c22e668445f1f28571e15ccc0fda977ab15c43c"},
	} {
		is(t, "LeafHash", peaks.LeafHash(c.leaf), ofDigits(c.want))
	}
}

// P9.2: hashes of two that others reckoned, of texts of 32 bytes and of others.
func TestKnownNodeHashes(t *testing.T) {
	for _, c := range []struct{ a, b, want string }{
		{"", "", "4bf5122f344554c53bde2ebb8cd2b7e3d1600ad631c385a5d7cce23c7785459a"},
		{"a", "b", "170404e05440f45062c423052d5adcfb2c9d546ecfcb2022d6c34af474dbaf18"},
		{"ab", "", "170404e05440f45062c423052d5adcfb2c9d546ecfcb2022d6c34af474dbaf18"},
		{strings.Repeat("\x00", 32), strings.Repeat("\xff", 32), "bc6b943b820c449acf880d293c216a24a8066b153f87f2361fae2beda3a72641"},
	} {
		is(t, "NodeHash", peaks.NodeHash(c.a, c.b), ofDigits(c.want))
	}
}

// P9.2: leaves of every length, and two of them, by the chapter's words; each has 32 bytes.
func TestHashesByDefinition(t *testing.T) {
	var last string
	for n := range 300 {
		leaf := []byte(strings.Repeat("leaf\x00\xff", 50)[n%7:][:n%280])
		got := peaks.LeafHash(leaf)
		is(t, "LeafHash", got, string(digest.Sum256([]byte("\x00"+string(leaf)))))
		two := peaks.NodeHash(last, got)
		is(t, "NodeHash", two, modelNode(last, got))
		if len(got) != 32 || len(two) != 32 || got == two || n > 0 && two == peaks.NodeHash(got, last) {
			t.Errorf("of %d bytes: %x, and of two %x", n, got, two)
		}
		last = got
	}
}

// P9.2: roots of leaves that others reckoned.
func TestKnownRoots(t *testing.T) {
	leaves := []string{"", "00", "10", "2021", "3031", "40414243", "5051525354555657", "606162636465666768696a6b6c6d6e6f"}
	var hashes []string
	for n, want := range []string{
		"e3b0c44298fc1c149afbf4c8996fb92427ae41e4649b934ca495991b7852b855",
		"6e340b9cffb37a989ca544e6bb780a2c78901d3fb33738768511a30617afa01d",
		"fac54203e7cc696cf0dfcb42c92a1d9dbaf70ad9e621f4bd8d98662f00e3c125",
		"aeb6bcfe274b70a14fb067a5e5578264db0fa9b51af5e0ba159158f329e06e77",
		"d37ee418976dd95753c1c73862b9398fa2a2cf9b4ff0fdfe8b30cd95209614b7",
		"4e3bbb1f7b478dcfe71fb631631519a3bca12c9aefca1612bfce4c13a86264d4",
		"76e67dadbcdf1e10e1b74ddc608abd2f98dfb16fbce75277b5232a127f2087ef",
		"ddb89be403809e325750d3d263cd78929c2942b7942a34b77e122c9594a74c8c",
		"5dc9da79a70659a9ad559cb701ded9a2ab9d823aad2f4960cfe370eff4604328",
	} {
		is(t, "Root", peaks.Root(hashes), ofDigits(want))
		if n < len(leaves) {
			hashes = append(hashes, peaks.LeafHash([]byte(ofDigits(leaves[n]))))
		}
	}
}

// P9.2: roots of hashes, of none on, by the tree's definition, and as a range of hashes has them.
func TestRootByDefinition(t *testing.T) {
	hashes := many(1026, leafHash)
	r := peaks.Hashes()
	for n := range hashes {
		if got := peaks.Root(hashes[:n]); got != modelRoot(hashes[:n]) || len(got) != 32 {
			t.Errorf("of %d: %x, not %x", n, got, modelRoot(hashes[:n]))
		}
		if top, ok := r.Top(); ok && top != modelRoot(hashes[:n]) {
			t.Errorf("Hashes of %d: %x, not %x", n, top, modelRoot(hashes[:n]))
		}
		r.Add(hashes[n])
	}
	is(t, "Root of an empty list", peaks.Root([]string{}), peaks.Root(nil))
	is(t, "Root of one", peaks.Root(hashes[:1]), hashes[0])
	is(t, "Root of two", peaks.Root(hashes[:2]), peaks.NodeHash(hashes[0], hashes[1]))
	is(t, "Root of three", peaks.Root(hashes[:3]), peaks.NodeHash(peaks.NodeHash(hashes[0], hashes[1]), hashes[2]))
}

// P9.2: each hash and the order of all matter.
func TestRootOfOthers(t *testing.T) {
	hashes := many(23, leafHash)
	root := peaks.Root(hashes)
	for i := range hashes {
		other := slices.Clone(hashes)
		other[i] = leafHash(1000)
		if peaks.Root(other) == root || peaks.Root(slices.Delete(other, i, i+1)) == root {
			t.Errorf("the hash at %d does not matter", i)
		}
		turned := slices.Clone(hashes)
		turned[i], turned[(i+1)%23] = turned[(i+1)%23], turned[i]
		if peaks.Root(turned) == root {
			t.Errorf("the order at %d does not matter", i)
		}
	}
}

// P9.2: texts that are no hashes are taken as they are.
func TestRootOfOtherTexts(t *testing.T) {
	for _, texts := range [][]string{{""}, {"a"}, {"", ""}, {"a", "", "bc"}, {strings.Repeat("x", 1000), "\xff\x00", "z", "", "q"}} {
		is(t, "Root", peaks.Root(texts), modelRoot(texts))
	}
}
