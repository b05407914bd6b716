package tls_test

import (
	"bytes"
	"math"
	"strings"
	"testing"

	"pantile/api"
	"pantile/tls"
)

// P8.1: what is signed of heads that are known.
func TestKnownHeads(t *testing.T) {
	root := "\x00\x01\x02\x03\x04\x05\x06\x07\x08\x09\x0a\x0b\x0c\x0d\x0e\x0f\xf0\xf1\xf2\xf3\xf4\xf5\xf6\xf7\xf8\xf9\xfa\xfb\xfc\xfd\xfe\xff"
	for want, h := range map[string]api.Head{
		"00 01 0000000000000002 0000000000000003 " + strings.Repeat("00", 32):                                      {Size: 3, Time: 2, Root: strings.Repeat("\x00", 32)},
		"00 01 0000000000000000 0000000000000000 " + strings.Repeat("ff", 32):                                      {Root: strings.Repeat("\xff", 32)},
		"00 01 0004000000000000 0000000000100000 " + strings.Repeat("c3a9", 16):                                    {Size: 1 << 20, Time: 1 << 50, Root: strings.Repeat("é", 16)},
		"00 01 0001020304050607 00000000000a0b0c " + strings.Repeat("0a", 31) + "0d":                               {Size: 0xa0b0c, Time: 0x1020304050607, Root: strings.Repeat("\n", 31) + "\r"},
		"00 01 000000000000ffff 0000000000010000 000102030405060708090a0b0c0d0e0ff0f1f2f3f4f5f6f7f8f9fafbfcfdfeff": {Size: 65536, Time: 65535, Root: root},
	} {
		b, e := tls.Head(h)
		answers(t, "Head", b, e, ofDigits(want), true)
	}
}

// P8.1: sizes, times and roots, the named ones and others around them, each with each.
func TestHeadsByTheModel(t *testing.T) {
	sizes := []int{-1, 0, 1, 1 << 20, 1<<20 + 1, 1<<20 - 1, 255, 256, 65535, 65536, 1 << 21, 1 << 32, 1<<32 + 1, math.MaxInt, math.MinInt, -1 << 20, -1 << 32}
	roots := []int{32, 31, 33, 0, 1, 16, 64, 1000}
	for _, size := range sizes {
		for _, time := range times() {
			for _, n := range roots {
				if looksHead(t, api.Head{Size: size, Time: time, Root: string(pattern(n, 3, size+n))}) != (size >= 0 && size <= 1<<20 && isTime(time) && n == 32) {
					t.Errorf("of %d, %d, %d bytes", size, time, n)
				}
			}
		}
	}
	for size := range 3000 {
		if !looksHead(t, api.Head{Size: size << 8, Time: size << 38, Root: string(pattern(32, 1, size))}) {
			t.Errorf("of %d, %d nothing is signed", size<<8, size<<38)
		}
	}
	looksHead(t, api.Head{})
}

// P8.1: of heads that are not the same what is signed is not the same.
func TestHeadsOneByOne(t *testing.T) {
	seen := map[string]struct{}{}
	all := 0
	for size := range 40 {
		for time := range 40 {
			for last := range 10 {
				b, _ := tls.Head(api.Head{Size: size, Time: time, Root: strings.Repeat("r", 31) + string([]byte{byte(last)})})
				seen[string(b)] = struct{}{}
				all++
			}
		}
	}
	if len(seen) != all {
		t.Errorf("%d bytes of %d heads", len(seen), all)
	}
}

// P8.2: the bytes of signatures of the named lengths, and others around them; of longer ones the length is what is left of it.
func TestSignatures(t *testing.T) {
	for n, ahead := range map[int]string{
		0: "08 07 0000", 1: "08 07 0001", 2: "08 07 0002", 63: "08 07 003f", 64: "08 07 0040", 65: "08 07 0041", 255: "08 07 00ff", 256: "08 07 0100", 258: "08 07 0102",
		65534: "08 07 fffe", 65535: "08 07 ffff", 65536: "08 07 0000", 65537: "08 07 0001", 65536 + 64: "08 07 0040", 131071: "08 07 ffff", 131072: "08 07 0000",
		131073: "08 07 0001", 1<<24 - 1: "08 07 ffff", 1 << 24: "08 07 0000", 1<<24 + 0x1234: "08 07 1234",
	} {
		s := pattern(n, 3, n)
		if b := tls.Signature(s); !bytes.Equal(b, append(ofDigits(ahead), s...)) {
			t.Errorf("Signature of %d bytes: %d bytes, %.40x", n, len(b), b)
		}
	}
	for n := range 3000 {
		s := pattern(n, 5, n)
		want := append([]byte{8, 7, byte(n / 256), byte(n % 256)}, s...)
		if b := tls.Signature(s); !bytes.Equal(b, want) {
			t.Errorf("Signature of %d bytes: %d bytes, %.40x", n, len(b), b)
		}
	}
}
