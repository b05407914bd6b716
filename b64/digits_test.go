package b64_test

import (
	"strings"
	"testing"

	"pantile/api"
	"pantile/b64"
)

// P5.2: digits that are known.
func TestKnownDigits(t *testing.T) {
	for text, want := range map[string]string{
		"":                                 "",
		"\x00":                             "00",
		"\x0a":                             "0a",
		"\xa0":                             "a0",
		"\xff":                             "ff",
		"hi":                               "6869",
		"\x00\x0a\xff":                     "000aff",
		"\x01\x23\x45\x67\x89\xab\xcd\xef": "0123456789abcdef",
		"\xfe\xdc\xba\x98\x76\x54\x32\x10": "fedcba9876543210",
	} {
		areDigits(t, []byte(text), want)
	}
}

// P5.2: all bytes, all numbers of them up to some, by the model.
func TestDigitsByTheModel(t *testing.T) {
	for n := range 1 << 8 {
		b := []byte{byte(n)}
		areDigits(t, b, modelDigits(b))
		areDigits(t, append(b, 0x5a, byte(n)), modelDigits(b)+"5a"+modelDigits(b))
	}
	for n := range 200 {
		b := pattern(n, 5, n*3)
		areDigits(t, b, modelDigits(b))
	}
	b := pattern(65536, 11, 4)
	areDigits(t, b, modelDigits(b))
}

// P5.2: digits of an odd number are none's.
func TestOddDigits(t *testing.T) {
	all := strings.Repeat(allDigits, 4)
	for n := 1; n < len(all); n += 2 {
		refuses(t, "Unhex", b64.Unhex, all[:n])
		refuses(t, "Unhex", b64.Unhex, all[len(all)-n:])
	}
}

// P5.2: capital digits, and signs that are no digits.
func TestSignsThatAreNoDigits(t *testing.T) {
	for _, s := range []string{
		"0A", "A0", "AA", "FF", "fF", "Ff", "00AB", "aB", "0g", "g0", "gg", "00ag", "ga00", "0x", "0x00", "0X", "x0",
		" 0", "0 ", "  ", "00 0", "00 00 ", "0\n", "\n0", "\n\n", "00\n\n", "00\n", "-1", "+1", "1.", "1_", "__", "\x00\x00", "\xff\xff",
		"é", "0é", "0é0", "日0", "０", "\\x", "``", "//", "::", "@@", "==", "0=", "00==",
	} {
		refuses(t, "Unhex", b64.Unhex, s)
	}
}

// P5.2, P5.3: of all texts of two signs those are right that are two digits.
func TestEachTwoSigns(t *testing.T) {
	right := 0
	for n := range 1 << 16 {
		s := string([]byte{byte(n >> 8), byte(n)})
		high, low := strings.IndexByte(allDigits, s[0]), strings.IndexByte(allDigits, s[1])
		if high < 0 || low < 0 {
			refuses(t, "Unhex", b64.Unhex, s)
			refuses(t, "Unhex", b64.Unhex, "7f"+s)
			refuses(t, "Unhex", b64.Unhex, s+"80")
			continue
		}
		right++
		areDigits(t, []byte{byte(16*high + low)}, s)
		areDigits(t, []byte{0x7f, byte(16*high + low), 0x80}, "7f"+s+"80")
	}
	if right != 256 {
		t.Errorf("%d texts of two signs are right", right)
	}
}

// P5.2, R2: a fault in a long text is found wherever it stands, and no bytes are told.
func TestLongDigitsWithAFault(t *testing.T) {
	right := modelDigits(pattern(500, 3, 5))
	for at := range right {
		for _, sign := range []string{"A", "F", "g", "=", "\n", " ", "\x00", "\xe9"} {
			refuses(t, "Unhex", b64.Unhex, right[:at]+sign+right[at+1:])
		}
	}
}

// P5.3: bytes that are not the same have digits that are not the same.
func TestDigitsAndBytesOneByOne(t *testing.T) {
	seen := map[string]bool{}
	all := 0
	for n := range 1 << 8 {
		seen[b64.Hex([]byte{byte(n)})] = true
		all++
		for m := range 1 << 8 {
			seen[b64.Hex([]byte{byte(n), byte(m)})] = true
			seen[b64.Hex([]byte{byte(n), 0, byte(m)})] = true
			all += 2
		}
	}
	if len(seen) != all {
		t.Errorf("%d digits of %d bytes", len(seen), all)
	}
	if b, e := b64.Unhex(""); len(b) != 0 || e != api.OK {
		t.Errorf("of none: %x %d", b, e)
	}
}
