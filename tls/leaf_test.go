package tls_test

import (
	"bytes"
	"encoding/binary"
	"fmt"
	"slices"
	"strings"
	"testing"

	"pantile/api"
	"pantile/tls"
)

// leafOf are bytes like a leaf's, of any time, and of any Cert and any number for its length.
func leafOf(time uint64, length int, cert string) []byte {
	return ofDigits(fmt.Sprintf("0000 %016x 0000 %06x %x 0000", time, length, cert))
}

// samples are leaves that may be, short ones and long ones.
func samples() []api.Leaf {
	return []api.Leaf{
		{Time: 1, Cert: "a"}, {Time: 0, Cert: "\x00"}, {Time: 1 << 50, Cert: "\xff"}, {Time: 258, Cert: "xyz"}, {Time: 0x102030405060, Cert: "é\x00\xc3"},
		{Time: 1721000000000, Cert: string(pattern(20, 3, 1))}, {Time: 1, Cert: strings.Repeat("\x00", 17)},
		{Time: 1<<50 - 1, Cert: string(pattern(255, 7, 1))}, {Time: 77, Cert: string(pattern(256, 5, 2))}, {Time: 1 << 49, Cert: string(pattern(1000, 3, 7))},
	}
}

// P8.1: the bytes of leaves that are known, the chapter's example among them.
func TestKnownLeaves(t *testing.T) {
	for want, l := range map[string]api.Leaf{
		"00 00 0000000000000001 0000 000001 61 0000":                                 {Time: 1, Cert: "a"},
		"00 00 0000000000000000 0000 000001 00 0000":                                 {Time: 0, Cert: "\x00"},
		"00 00 0000000000000102 0000 000003 78797a 0000":                             {Time: 258, Cert: "xyz"},
		"00 00 0004000000000000 0000 000002 ff0a 0000":                               {Time: 1 << 50, Cert: "\xff\n"},
		"00 00 0001020304050607 0000 000004 00fe8061 0000":                           {Time: 0x1020304050607, Cert: "\x00\xfe\x80a"},
		"00 00 000000000000000a 0000 0003e8 " + strings.Repeat("7a", 1000) + " 0000": {Time: 10, Cert: strings.Repeat("z", 1000)},
		"00 00 000000000000000b 0000 000100 " + strings.Repeat("0d", 256) + " 0000":  {Time: 11, Cert: strings.Repeat("\r", 256)},
	} {
		b, e := tls.Leaf(l)
		answers(t, "Leaf", b, e, ofDigits(want), true)
		b, e = tls.Signed(l)
		answers(t, "Signed", b, e, ofDigits(want), true)
		if again, e := tls.Parse(ofDigits(want)); again != l || e != api.OK {
			t.Errorf("Parse of %.100s: %d %.40q %d", want, again.Time, again.Cert, e)
		}
	}
}

// P8.1, P8.3: times up to the named ones and beyond, and Certs of each length around the named ones.
func TestTimesAndCerts(t *testing.T) {
	for _, time := range times() {
		if right := looksLeaf(t, api.Leaf{Time: time, Cert: "cert"}); right != isTime(time) {
			t.Errorf("of the time %d: %v", time, right)
		}
		looksLeaf(t, api.Leaf{Time: time})
	}
	for n := range 1100 {
		if right := looksLeaf(t, api.Leaf{Time: 3 * n, Cert: string(pattern(n, 3, n))}); right != (n > 0 && n <= 1000) {
			t.Errorf("of %d bytes: %v", n, right)
		}
	}
	for _, n := range []int{1<<16 + 1, 1<<24 - 1, 1 << 24, 1<<24 + 1, 1<<24 + 1000} {
		looksLeaf(t, api.Leaf{Time: 1, Cert: strings.Repeat("c", n)})
	}
	looksLeaf(t, api.Leaf{})
	looksLeaf(t, api.Leaf{Time: -1, Cert: strings.Repeat("c", 1001)})
}

// P8.1, P8.3: leaves that seem to come by chance, of bytes of every kind.
func TestLeavesByTheModel(t *testing.T) {
	for c := range 256 {
		looksLeaf(t, api.Leaf{Time: c << 42, Cert: string([]byte{byte(c)})})
	}
	c := chance(81)
	for range 3000 {
		time := c.below(1<<31)<<20 | c.below(1<<20)
		looksLeaf(t, api.Leaf{Time: time >> c.below(50), Cert: string(pattern(c.below(1010), c.below(9), c.below(256)))})
	}
}

// P8.3: leaves that are not the same have bytes that are not the same.
func TestLeavesOneByOne(t *testing.T) {
	seen := map[string]struct{}{}
	all := 0
	for time := range 300 {
		for _, cert := range []string{"a", "b", "aa", "a\x00", "\x00", "\x00\x00", "\x00\x00\x00", "\x00a"} {
			b, _ := tls.Leaf(api.Leaf{Time: time, Cert: cert})
			seen[string(b)] = struct{}{}
			all++
		}
	}
	if len(seen) != all {
		t.Errorf("%d bytes of %d leaves", len(seen), all)
	}
}

// P8.1: a leaf's bytes that end one or more bytes too soon, and such as have some too many.
func TestLeafTooShortOrTooLong(t *testing.T) {
	parsesTo(t, api.ErrShort, nil)
	for _, l := range samples() {
		b, _ := modelLeaf(l)
		for n := range b {
			parsesTo(t, api.ErrShort, b[:n])
		}
		parsesTo(t, api.OK, b)
		for _, more := range [][]byte{{0}, {1}, {255}, {0, 0}, make([]byte, 17), b} {
			parsesTo(t, api.ErrBytes, slices.Concat(b, more))
			parsesTo(t, api.ErrBytes, slices.Concat(b[:len(b)-2], more, []byte{1, 0}))
		}
	}
}

// P8.1: a leaf's bytes that are wrong at each place, by each other byte; of a length that is too great the bytes end too soon.
func TestLeafWrongAtEachPlace(t *testing.T) {
	for _, l := range samples()[:7] {
		right, _ := modelLeaf(l)
		for at := range right {
			for other := range 256 {
				b := bytes.Clone(right)
				b[at] = byte(other)
				e := parses(t, b)
				if fixed := at <= 2 || at == 10 || at == 11 || at >= len(b)-2; fixed && b[at] != right[at] && e != api.ErrBytes {
					t.Errorf("byte %d of %x is wrong: %d", at, b, e)
				}
				if at >= 12 && at < 15 && int(b[at]) > int(right[at]) && e != api.ErrShort {
					t.Errorf("the length of %x is too great: %d", b, e)
				}
			}
		}
	}
	for _, l := range samples()[7:] {
		right, _ := modelLeaf(l)
		for at := range right {
			for _, flip := range []byte{1, 2, 4, 128, 255} {
				b := bytes.Clone(right)
				b[at] ^= flip
				parses(t, b)
			}
		}
	}
}

// P8.1: bytes that are wrong, and end too soon: they end too soon.
func TestLeafWrongAndTooShort(t *testing.T) {
	for _, l := range samples()[:7] {
		right, _ := modelLeaf(l)
		for _, at := range []int{0, 1, 2, 9, 10, 11} {
			for _, flip := range []byte{1, 128, 255} {
				b := bytes.Clone(right)
				b[at] ^= flip
				for n := at; n < len(b); n++ {
					parsesTo(t, api.ErrShort, b[:n])
				}
				parses(t, b)
				parsesTo(t, api.ErrBytes, append(b, 0))
			}
		}
		b := bytes.Clone(right)
		b[len(b)-2] = 1
		parsesTo(t, api.ErrShort, b[:len(b)-1])
		parsesTo(t, api.ErrBytes, b)
	}
	for n := range 15 {
		parsesTo(t, api.ErrShort, bytes.Repeat([]byte{255}, n))
	}
}

// P8.1: times that none may have, in bytes that are right else; those neither that are below 0 as an int.
func TestTimesInBytes(t *testing.T) {
	for _, time := range []uint64{1<<50 + 1, 1<<50 + 2, 1 << 51, 1 << 56, 1<<62 + 1, 1<<63 - 1, 1 << 63, 1<<63 + 1, 1<<63 + 1<<50, 1<<64 - 1<<50, 1<<64 - 2, 1<<64 - 1} {
		b := leafOf(time, 4, "cert")
		parsesTo(t, api.ErrBytes, b)
		parsesTo(t, api.ErrShort, b[:len(b)-1])
	}
	for _, time := range []uint64{0, 1, 255, 256, 1<<32 - 1, 1 << 32, 1<<50 - 1, 1 << 50} {
		parsesTo(t, api.OK, leafOf(time, 4, "cert"))
	}
}

// P8.1: lengths in bytes: 0 and those of more than 1000, as many bytes as they say, one fewer, and one more.
func TestLengthsInBytes(t *testing.T) {
	for _, n := range []int{0, 1, 2, 255, 256, 257, 999, 1000, 1001, 1002, 1023, 1024, 65535, 65536, 65537, 1<<24 - 1} {
		cert := strings.Repeat("c", n)
		want := api.OK
		if n == 0 || n > 1000 {
			want = api.ErrBytes
		}
		b := leafOf(9, n, cert)
		parsesTo(t, want, b)
		parsesTo(t, api.ErrShort, b[:len(b)-1])
		parsesTo(t, api.ErrShort, b[:len(b)-2])
		parsesTo(t, api.ErrBytes, leafOf(9, n, cert+"\x00"))
		parsesTo(t, api.ErrBytes, append(b, 0))
		if n > 2 {
			parsesTo(t, api.ErrShort, b[:len(b)-3])
			parsesTo(t, api.ErrShort, b[:15])
			parsesTo(t, api.ErrShort, b[:17])
			parsesTo(t, api.ErrShort, leafOf(9, n, cert[1:]))
		}
	}
	parsesTo(t, api.ErrBytes, leafOf(9, 0, "a"))
	parsesTo(t, api.ErrBytes, leafOf(9, 1, "ab"))
	parsesTo(t, api.ErrShort, leafOf(9, 1<<24-1, strings.Repeat("c", 1000)))
	parsesTo(t, api.ErrShort, leafOf(9, 1001, strings.Repeat("c", 1000)))
}

// P8.1, P8.3: bytes that seem to come by chance: those are read that are a leaf's.
func TestBytesByTheModel(t *testing.T) {
	c := chance(82)
	for range 20000 {
		b := pattern(c.below(40), c.below(256), c.below(256))
		parses(t, b)
		if len(b) > 14 {
			binary.BigEndian.PutUint32(b, 0)
			binary.BigEndian.PutUint32(b[10:], 0)
			b[14] = byte(c.below(30))
		}
		parses(t, b)
		if len(b) > 16 {
			clear(b[len(b)-2:])
			b[14] = byte(len(b) - 17)
		}
		if e := parses(t, b); len(b) > 17 && e != api.OK {
			t.Errorf("Parse of %x: %d", b, e)
		}
	}
}
