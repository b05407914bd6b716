package seal_test

import (
	"bytes"
	"testing"

	"pantile/digest"
	"pantile/seal"
)

// P4.2: names that others reckoned.
func TestKnownNames(t *testing.T) {
	for _, l := range []struct{ origin, public, name string }{
		{"PeterNeumann", "1a5cd907143c384c41e830c5bce12aa8817ec5649aaabf2c31388b35b2d744d6", "c74f20a3"},
		{"sum.golang.org", "ce3372d75ad1ee5ecdaf8727293d4b111d87eb37531d7c86d4d3003f0eb809fc", "033de0ae"},
		{"", "", "426e75c2"},
		{"log.example", "", "334dede2"},
		{"", "0707070707070707070707070707070707070707070707070707070707070707", "21e1cc3c"},
		{"log.example", "0707070707070707070707070707070707070707070707070707070707070707", "0463ec37"},
		{"log.example", "6162", "54d98ef8"},
	} {
		are(t, l.origin, seal.Name(l.origin, unhex(t, l.public)), unhex(t, l.name))
	}
}

// P4.2: names are the first of the digest, of origins and public keys of any bytes and lengths.
func TestNamesByTheModel(t *testing.T) {
	for _, origin := range []string{"", "a", "\n", "\x01", "\n\x01", "log.example", "\xff\x00", string(pattern(300, 7, 1))} {
		for _, public := range [][]byte{nil, {}, {1}, {10, 1}, pattern(31, 3, 3), pattern(32, 3, 3), pattern(33, 3, 3), make([]byte, 32), bytes.Repeat([]byte{255}, 32), pattern(1000, 9, 4)} {
			all := append([]byte(origin), 10, 1)
			all = append(all, public...)
			are(t, origin, seal.Name(origin, public), digest.Sum256(all)[:4])
		}
	}
}

// P4.2: other origins and other public keys have other names, by each byte.
func TestNamesAreApart(t *testing.T) {
	seen := map[string]int{}
	for at := range 32 {
		public := make([]byte, 32)
		public[at] = 1
		seen[string(seal.Name("log.example", public))]++
		seen[string(seal.Name("log.example"[:at%11], public))]++
	}
	if len(seen) != 64 {
		t.Errorf("%d names, not 64", len(seen))
	}
}
