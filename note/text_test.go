package note_test

import (
	"math"
	"strings"
	"testing"

	"pantile/api"
	"pantile/note"
	"pantile/seal"
)

// P11.1: an origin has 1 to 30 bytes.
func TestLengthsOfOrigins(t *testing.T) {
	for _, sign := range []string{"a", "z", "0", "9", ".", "/", "-"} {
		for n := range 400 {
			if got := note.Origin(strings.Repeat(sign, n)); got != (1 <= n && n <= 30) {
				t.Errorf("Origin of %d times %q: %v", n, sign, got)
			}
		}
	}
	for _, s := range []string{strings.Repeat("a", 1<<20), "a" + strings.Repeat("\n", 1<<20)} {
		if note.Origin(s) {
			t.Errorf("Origin of %d bytes", len(s))
		}
	}
}

// P11.1: an origin's bytes are a to z, 0 to 9, `.`, `/` and `-`, wherever they stand.
func TestBytesOfOrigins(t *testing.T) {
	right := 0
	for n := range 256 {
		c := string([]byte{byte(n)})
		want := strings.Contains("abcdefghijklmnopqrstuvwxyz0123456789./-", c)
		if note.Origin(c) {
			right++
		}
		for _, s := range []string{c, c + "a", "a" + c, "log" + c + "example", c + c, c + strings.Repeat("a", 29), strings.Repeat("a", 29) + c} {
			if got := note.Origin(s); got != want || got != originForm.MatchString(s) {
				t.Errorf("Origin(%q): %v", s, got)
			}
		}
	}
	if right != 39 {
		t.Errorf("%d origins of one byte", right)
	}
}

// P11.1: origins, and texts that are near to one.
func TestKnownOrigins(t *testing.T) {
	for _, s := range []string{"a", "-", "/", ".", "..", "//", "log.example", "log.example/2026-h2", "0", "-./", "abcdefghijklmnopqrstuvwxyz0123", "456789./-"} {
		if !note.Origin(s) {
			t.Errorf("%q is none", s)
		}
	}
	for _, s := range []string{
		"", " ", "\n", "\x00", "a b", " a", "a ", "a\n", "\na", "A", "Log.example", "log.Example", "log_example", "log:80", "log+example", "log,example", "log%2eexample", "log@a", "log\\a",
		"é", "aé", "ａ", "\u2014", "\xff", "a\xff", "\xe2", "\ufffd", "lo\u0261", "abcdefghijklmnopqrstuvwxyz01234", "\u212a", "`", "{", ":", ",",
	} {
		if note.Origin(s) {
			t.Errorf("%q is one", s)
		}
	}
}

// P11.1: the document's example.
func TestKnownText(t *testing.T) {
	s, e := note.Text("log.example", 3, string(make([]byte, 32)))
	if s != "log.example\n3\nAAAAAAAAAAAAAAAAAAAAAAAAAAAAAAAAAAAAAAAAAAA=\n" || e != api.OK {
		t.Errorf("%q %d", s, e)
	}
}

// P11.1: texts of all sizes that may be, and of others.
func TestSizesOfTexts(t *testing.T) {
	for n := 0; n <= mostLeaves+2000; n++ {
		if n > 2000 && n < mostLeaves-2000 && n%997 != 0 {
			continue
		}
		if writes(t, "log.example", n, rootOf(n)) != (n <= mostLeaves) || n > 0 && writes(t, "log.example", -n, rootOf(n)) {
			t.Errorf("size %d", n)
		}
	}
	for bits := range 63 {
		for by := -1; by <= 1; by++ {
			writes(t, "a", 1<<bits+by, rootOf(bits))
			writes(t, "a", -(1<<bits)+by, rootOf(bits))
		}
	}
	for _, n := range []int{math.MinInt, math.MinInt + 1, math.MaxInt, math.MaxInt - 1, 1<<53 + 1, 1 << 32, 1<<32 + 3, -1 << 32, -1} {
		if writes(t, "a", n, rootOf(1)) {
			t.Errorf("size %d", n)
		}
	}
}

// P11.1: texts of roots of 32 bytes, whatever they are, and of no other length.
func TestRootsOfTexts(t *testing.T) {
	for n := range 300 {
		if writes(t, "log.example", 5, strings.Repeat("r", n)) != (n == 32) {
			t.Errorf("a root of %d bytes", n)
		}
	}
	c := chance(111)
	for range 300 {
		root := string(c.bytes(32))
		if !writes(t, "log.example", c.below(mostLeaves+1), root) {
			t.Errorf("root %x", root)
		}
	}
	for n := range 256 {
		writes(t, "a", n, strings.Repeat(string([]byte{byte(n)}), 32))
	}
	for _, root := range []string{"", strings.Repeat("é", 32), strings.Repeat("é", 16), strings.Repeat("\xff", 32), strings.Repeat("\n", 32), strings.Repeat("A", 43) + "=", strings.Repeat("00", 32), strings.Repeat("r", 1<<20)} {
		writes(t, "a", 1, root)
	}
}

// wrongs are what may not be handed in, each beside what may be.
func wrongs() []seen {
	root := rootOf(4)
	return []seen{
		{origin: "", size: 1, root: root}, {origin: strings.Repeat("a", 31), size: 1, root: root}, {origin: "a b", size: 1, root: root}, {origin: "A", size: 1, root: root}, {origin: "a\n", size: 1, root: root},
		{origin: "a", size: -1, root: root}, {origin: "a", size: mostLeaves + 1, root: root}, {origin: "a", size: math.MinInt, root: root}, {origin: "a", size: math.MaxInt, root: root}, {origin: "a", size: 1 << 53, root: root},
		{origin: "a", size: 1, root: ""}, {origin: "a", size: 1, root: root[1:]}, {origin: "a", size: 1, root: root + "r"}, {origin: "a", size: 1, root: root + root},
		{origin: "", size: -1, root: ""}, {origin: "", size: -1, root: root}, {origin: "a", size: -1, root: ""}, {origin: "", size: 1, root: ""},
	}
}

// P11.1, R2: what may not be handed in is refused, by Text and by Sign.
func TestWrongTexts(t *testing.T) {
	k := key(t, 1)
	for _, w := range wrongs() {
		if writes(t, w.origin, w.size, w.root) || signs(t, k, w.origin, w.size, w.root) {
			t.Errorf("taken: %q %d %q", w.origin, w.size, w.root)
		}
	}
}

// P11.1: texts of other origins, sizes and roots are others.
func TestTextsAreApart(t *testing.T) {
	all := map[string]int{}
	many := 0
	for _, origin := range []string{"a", "b", "a/1", "1", "0", "-", "."} {
		for _, size := range []int{0, 1, 10, 11, 101, mostLeaves} {
			for first := range 5 {
				s, _ := note.Text(origin, size, rootOf(first))
				all[s]++
				many++
			}
		}
	}
	if len(all) != many {
		t.Errorf("%d texts of %d", len(all), many)
	}
}

// known are notes whose names, seals and letters Go's library made.
func known() []struct {
	secret, origin string
	size           int
	root, note     string
} {
	return []struct {
		secret, origin string
		size           int
		root, note     string
	}{
		{"9d61b19deffd5a60ba844af492ec2cc44449c5697b326919703bac031cae7f60", "log.example", 3, "0000000000000000000000000000000000000000000000000000000000000000",
			"log.example\n3\nAAAAAAAAAAAAAAAAAAAAAAAAAAAAAAAAAAAAAAAAAAA=\n\n— log.example gUogCHuMAkrrxE6iFO16lzOocZNFKxe/NzAEtKbYO+jJwMXDCQpN9Iaf2ycgw6fNSk+ZnXs5B3URLw43BwSlrhaw3Ac=\n"},
		{"4ccd089b28ff96da9db6c346ec114e0f5b8a319f35aba624da8cf6ed4fb8a6fb", "a", 0, "6e340b9cffb37a989ca544e6bb780a2c78901d3fb33738768511a30617afa01d",
			"a\n0\nbjQLnP+zepicpUTmu3gKLHiQHT+zNzh2hRGjBhevoB0=\n\n— a bFjzSV5cxfZ8Ft/J0p3WDl5uCM8FNGJhgunXH1G4Rd8D/tEf6pv8BaRRf8iYoIyS0w4lLW7rUcjkgQ4gR5roe3/AdgE=\n"},
		{"0000000000000000000000000000000000000000000000000000000000000000", "-./abcdefghijklmnopqrstuvwxyz0", 1048576, "4bf5122f344554c53bde2ebb8cd2b7e3d1600ad631c385a5d7cce23c7785459a",
			"-./abcdefghijklmnopqrstuvwxyz0\n1048576\nS/USLzRFVMU73i67jNK349FgCtYxw4Wl18ziPHeFRZo=\n\n— -./abcdefghijklmnopqrstuvwxyz0 nHMXi84s9irnr34q6YGiZj3ElFRkfXUpJPKh3WtTtaFMk1oHBI1MbramRb1vgmWke+T52a6H6RJDxF9Ro22kYbL1Jgc=\n"},
		{"9d61b19deffd5a60ba844af492ec2cc44449c5697b326919703bac031cae7f60", "123456789", 1000, "dbc1b4c900ffe48d575b5da5c638040125f65db0fe3e24494b76ea986457d986",
			"123456789\n1000\n28G0yQD/5I1XW12lxjgEASX2XbD+PiRJS3bqmGRX2YY=\n\n— 123456789 iok/Dmf/0XCmYord8kZZNWzxUEyG4C7hRTHooBW+GVqdjA0sv3LrrXRmj8d2uuLuw3Av2Joanuhp3SzBwsIzlgeoWQ8=\n"},
	}
}

// P11.1, P11.2: notes that Go's library made are signed, read and checked.
func TestKnownNotes(t *testing.T) {
	for _, l := range known() {
		k, _ := seal.New(ofDigits(l.secret))
		root := string(ofDigits(l.root))
		if s, e := note.Sign(k, l.origin, l.size, root); s != l.note || e != api.OK {
			t.Errorf("Sign(%q): %q %d, not %q", l.origin, s, e, l.note)
		}
		if h, e := note.Check(k.Public(), l.origin, l.note); h != (api.Head{Size: l.size, Root: root}) || e != api.OK {
			t.Errorf("Check(%q): %+v %d", l.note, h, e)
		}
		signs(t, k, l.origin, l.size, root)
	}
}

// P11.1, P11.3: what is signed is as the chapter says, and read, and checked.
func TestSigned(t *testing.T) {
	keys := []*seal.Key{key(t, 0), key(t, 1), key(t, 255)}
	origins := []string{"a", "-", "log.example", "log.example/a", strings.Repeat("a", 30), "abcdefghijklmnopqrstuvwxyz0123", "..//--", "0"}
	sizes := []int{0, 1, 9, 10, 256, 65536, mostLeaves - 1, mostLeaves}
	roots := []string{string(make([]byte, 32)), strings.Repeat("\xff", 32), strings.Repeat("\n", 32), rootOf(9)}
	c := chance(112)
	for i, origin := range origins {
		for j, size := range sizes {
			if !signs(t, keys[(i+j)%3], origin, size, roots[(i+2*j)%4]) || !signs(t, keys[j%3], origin, c.below(mostLeaves+1), string(c.bytes(32))) {
				t.Errorf("%q of %d is not signed", origin, size)
			}
		}
	}
}

// P11.1: keys' notes are apart, by their lines alone.
func TestNotesOfKeysAreApart(t *testing.T) {
	all := map[string]int{}
	for n := range 8 {
		s, _ := note.Sign(key(t, byte(n)), "log.example", 3, rootOf(3))
		all[s]++
		text, _ := modelText("log.example", 3, rootOf(3))
		if !strings.HasPrefix(s, text+"\n"+dash+" log.example ") {
			t.Errorf("%q", s)
		}
	}
	if len(all) != 8 {
		t.Errorf("%d notes", len(all))
	}
}
