package tls_test

import (
	"bytes"
	"slices"
	"testing"

	"pantile/api"
	"pantile/tls"
)

// P8.2: joined texts that are known.
func TestKnownTexts(t *testing.T) {
	for want, l := range map[string][]string{
		"":                                {},
		"0000":                            {""},
		"0000 0000 0000":                  {"", "", ""},
		"0001 61":                         {"a"},
		"0001 61 0000 0002 6263":          {"a", "", "bc"},
		"0002 0000 0001 00 0000 0001 ff":  {"\x00\x00", "\x00", "", "\xff"},
		"0000 0004 00010002 0002 0001":    {"", "\x00\x01\x00\x02", "\x00\x01"},
		"0002 c3a9 0001 0a 0003 e697a5":   {"é", "\n", "日"},
		"0003 000161 0005 0000000161":     {"\x00\x01a", "\x00\x00\x00\x01a"},
		"000a 30313233343536373839 0000 ": {"0123456789", ""},
	} {
		var texts [][]byte
		for _, s := range l {
			texts = append(texts, []byte(s))
		}
		b, e := tls.Join(texts)
		answers(t, "Join", b, e, ofDigits(want), true)
		if again, e := tls.Split(ofDigits(want)); !sameTexts(again, texts) || e != api.OK {
			t.Errorf("Split of %s: %x %d", want, again, e)
		}
	}
}

// P8.2, P8.3: no texts, texts of the named lengths and others, alone and with others around them.
func TestTextsOfEachLength(t *testing.T) {
	joins(t)
	joins(t, nil)
	joins(t, nil, []byte{}, nil)
	for n := range 1000 {
		joins(t, pattern(n, 3, n))
		joins(t, pattern(n, 3, n), []byte("between"), pattern(n, 5, n), nil, pattern(n/2, 1, n))
	}
	for _, n := range []int{4095, 4096, 32767, 32768, 65279, 65280, 65534, 65535} {
		joins(t, pattern(n, 3, n))
		joins(t, nil, pattern(n, 3, n), pattern(n, 7, 0), []byte("behind"))
		joins(t, make([]byte, n), make([]byte, n))
	}
}

// P8.2: a text of more than 65535 bytes, wherever it stands among others.
func TestTextsTooLong(t *testing.T) {
	for _, n := range []int{65536, 65537, 65536 + 7, 131071, 131072, 1 << 24, 1<<24 + 1} {
		long := pattern(n, 3, n)
		for _, l := range [][][]byte{
			{long}, {long, nil}, {nil, long}, {[]byte("a"), long, []byte("b")}, {[]byte("a"), []byte("b"), long}, {long, long}, {long[:65535], long},
		} {
			b, e := tls.Join(l)
			answers(t, "Join of a long one", b, e, nil, false)
		}
		joins(t, long[:65535], long[n-65535:])
	}
}

// P8.2, R2: joined bytes that end within a length or within a text: none are told.
func TestJoinedBytesThatEndTooSoon(t *testing.T) {
	for _, l := range [][][]byte{
		{[]byte("a")}, {nil}, {nil, nil}, {[]byte("a"), nil, []byte("bc")}, {[]byte("abc"), []byte("defg"), nil, nil, []byte("h")},
		{pattern(255, 3, 1), pattern(256, 5, 2), nil}, {make([]byte, 9), make([]byte, 8)},
	} {
		b := modelJoin(l)
		ends, end := []int{0}, 0
		for _, text := range l {
			end += 2 + len(text)
			ends = append(ends, end)
		}
		for n := range len(b) + 1 {
			if right := splits(t, b[:n]); right != slices.Contains(ends, n) {
				t.Errorf("Split of %d bytes of %.100x: %v", n, b, right)
			}
		}
		for _, more := range []string{"00", "ff", "0001", "0002 61", "ffff", "0100 00", "0000 00", "0001 61 0002 61"} {
			if splits(t, slices.Concat(b, ofDigits(more))) {
				t.Errorf("Split of %.100x, and %s behind: not too short", b, more)
			}
		}
		for _, more := range []string{"0000", "0001 61", "0002 6162 0000"} {
			if !splits(t, slices.Concat(b, ofDigits(more))) {
				t.Errorf("Split of %.100x, and %s behind: too short", b, more)
			}
		}
	}
}

// P8.2: a greatest text that ends one byte too soon.
func TestGreatTextThatEndsTooSoon(t *testing.T) {
	b := modelJoin([][]byte{pattern(65535, 3, 1), pattern(65535, 5, 1)})
	for _, n := range []int{len(b), len(b) / 2} {
		splits(t, b[:n])
		for by := 1; by <= 3; by++ {
			if splits(t, b[:n-by]) {
				t.Errorf("Split of %d bytes, and %d too few: not too short", n, by)
			}
		}
	}
}

// P8.2, P8.3: all bytes of few kinds, and such as seem to come by chance: what is split of them is joined to them again.
func TestSplitAndJoinOneByOne(t *testing.T) {
	look := func(b []byte) {
		if !splits(t, b) {
			return
		}
		l, _ := tls.Split(b)
		if again, e := tls.Join(l); !bytes.Equal(again, b) || e != api.OK {
			t.Errorf("Join of what Split makes of %x: %x %d", b, again, e)
		}
	}
	for size := range 8 {
		for n := range 1 << (2 * size) {
			b := make([]byte, size)
			for i := range b {
				b[i] = byte(n >> (2 * i) & 3)
			}
			look(b)
		}
	}
	for n := range 1 << 16 {
		look([]byte{byte(n >> 8), byte(n)})
		look([]byte{0, byte(n >> 8), byte(n)})
	}
	c := chance(83)
	for range 3000 {
		var l [][]byte
		for range c.below(9) {
			l = append(l, pattern(c.below(1+c.below(400)), c.below(9), c.below(256)))
		}
		joins(t, l...)
		look(pattern(c.below(30), c.below(2), c.below(3)))
	}
}
