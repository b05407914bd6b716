package b64_test

import (
	"fmt"
	"strings"
	"testing"

	"pantile/api"
	"pantile/b64"
)

// P5.1: letters that others reckoned.
func TestKnownLetters(t *testing.T) {
	for text, want := range map[string]string{
		"":                         "",
		"f":                        "Zg==",
		"fo":                       "Zm8=",
		"foo":                      "Zm9v",
		"foob":                     "Zm9vYg==",
		"fooba":                    "Zm9vYmE=",
		"foobar":                   "Zm9vYmFy",
		"hi":                       "aGk=",
		"\x00":                     "AA==",
		"\x00\x00":                 "AAA=",
		"\x00\x00\x00":             "AAAA",
		"\xff":                     "/w==",
		"\xff\xff":                 "//8=",
		"\xff\xff\xff":             "////",
		"\xfb\xef\xbe":             "++++",
		"\xff\xfe\xfb":             "//77",
		"\xfb\xf0":                 "+/A=",
		"\x14\xfb\x9c\x03\xd9\x7e": "FPucA9l+",
		"\x14\xfb\x9c\x03\xd9":     "FPucA9k=",
		"\x14\xfb\x9c\x03":         "FPucAw==",
	} {
		areLetters(t, []byte(text), want)
	}
}

// P5.1: 0 to 63 are the letters in their order.
func TestLettersInTheirOrder(t *testing.T) {
	b := []byte{
		0x00, 0x10, 0x83, 0x10, 0x51, 0x87, 0x20, 0x92, 0x8b, 0x30, 0xd3, 0x8f,
		0x41, 0x14, 0x93, 0x51, 0x55, 0x97, 0x61, 0x96, 0x9b, 0x71, 0xd7, 0x9f,
		0x82, 0x18, 0xa3, 0x92, 0x59, 0xa7, 0xa2, 0x9a, 0xab, 0xb2, 0xdb, 0xaf,
		0xc3, 0x1c, 0xb3, 0xd3, 0x5d, 0xb7, 0xe3, 0x9e, 0xbb, 0xf3, 0xdf, 0xbf,
	}
	areLetters(t, b, allLetters)
}

// P5.1: each byte alone, each two bytes, and all lengths around multiples of three, by the model.
func TestLettersByTheModel(t *testing.T) {
	for n := range 1 << 8 {
		b := []byte{byte(n)}
		areLetters(t, b, modelLetters(b))
	}
	for n := range 1 << 16 {
		b := []byte{byte(n >> 8), byte(n)}
		areLetters(t, b, modelLetters(b))
	}
	for n := range 200 {
		for step := range 9 {
			b := pattern(n, 2*step+1, n*31+step)
			areLetters(t, b, modelLetters(b))
		}
	}
	for _, n := range []int{1000, 4095, 4096, 4097, 65535, 65536, 65537} {
		b := pattern(n, 7, n)
		areLetters(t, b, modelLetters(b))
	}
}

// P5.1: letters whose number is no multiple of four are none's, with no fillers, with too few, with too many.
func TestNumberOfLetters(t *testing.T) {
	for _, ahead := range []string{"", "Zm9v", "Zm9vYmFy"} {
		for _, s := range []string{
			"A", "AA", "AAA", "A=", "A==", "AA=", "AAA==", "AA===", "AAA===", "=", "==", "===",
			"AAAA=", "AAAA==", "AAAA===", "A===", "A====", "Zg", "Zm8", "Zg=", "Zm8==",
		} {
			refuses(t, "Decode", b64.Decode, ahead+s)
		}
	}
}

// P5.1: fillers stand at the end, two of them at most.
func TestFillersElsewhere(t *testing.T) {
	for _, s := range []string{
		"====", "A===", "=AAA", "A=AA", "AA=A", "==AA", "=AA=", "A=A=", "A==A", "=A==", "=A=A", "===A",
		"AAAA====", "AAAAA===", "Zg==Zg==", "Zm8=Zm8=", "Zg==Zm9v", "Zm8=Zm9v", "Zm9v=AAA", "Zm9v==AA",
		"Zm9vA=A=", "Zm9v====Zm9v", "Zm9vYg==Zm9v", "Zg==AAAAZm9v", "Zg======", "Zm8=====", "AAAA=AAA", "AAA=A===",
	} {
		refuses(t, "Decode", b64.Decode, s)
	}
}

// P5.1, P5.3: of all texts of two letters and two fillers, and of three and one, those are right whose bits behind the last byte are noughts.
func TestBitsBehindTheLastByte(t *testing.T) {
	for _, ahead := range []string{"", "Zm9v"} {
		for n := range 1 << 12 {
			s := ahead + string([]byte{allLetters[n>>6], allLetters[n&63], '=', '='})
			if n&15 != 0 {
				refuses(t, "Decode", b64.Decode, s)
			} else {
				areLetters(t, append(foo(ahead), byte(n>>4)), s)
			}
		}
		for n := range 1 << 18 {
			s := ahead + string([]byte{allLetters[n>>12], allLetters[n>>6&63], allLetters[n&63], '='})
			if n&3 != 0 {
				refuses(t, "Decode", b64.Decode, s)
			} else {
				areLetters(t, append(foo(ahead), byte(n>>10), byte(n>>2)), s)
			}
		}
	}
}

// foo are the bytes of what stands ahead: none, or three.
func foo(ahead string) []byte { return []byte(strings.Replace(ahead, "Zm9v", "foo", 1)) }

// P5.1: signs that are no letters, at each place.
func TestSignsThatAreNoLetters(t *testing.T) {
	for _, right := range []string{"AAAA", "AAA=", "AA==", "Zm9vAAAA", "Zm9vAAA=", "Zm9vAA=="} {
		for at := range right {
			for sign := range 256 {
				s := []byte(right)
				s[at] = byte(sign)
				b, e := b64.Decode(string(s))
				if strings.IndexByte(allLetters, byte(sign)) < 0 && sign != '=' && e != api.ErrForm {
					t.Errorf("%q: %x %d, not refused", s, b, e)
				}
				if e != api.OK && (e != api.ErrForm || len(b) != 0) {
					t.Errorf("%q: %x %d", s, b, e)
				}
				if e == api.OK && modelLetters(b) != string(s) {
					t.Errorf("%q: %x, whose letters are %q", s, b, modelLetters(b))
				}
			}
		}
	}
	for _, s := range []string{
		"Zm9v\n", "Zm9v\r\n", "Zm9v\n\n\n\n", "Zm9\n", "Zm\r\n", "\nZm9", "Zm9vZm\n=", "Zg=\n", "Zg==\n", "Zg==\n\n\n\n",
		" Zm9", "Zm 9", "    ", "Zm9v    ", "Zm9-", "Zm9_", "-_-_", "Z-==", "Z_==", "Zm9,", "\x00\x00\x00\x00", "\xff\xff\xff\xff",
		"é===", "éé", "éé==", "AAé", "日A", "日=", "AA\U0001F600AA", "ＡＡ==", "zm9v!", "Zm9v!!!!", "@[`{", "./:;",
	} {
		refuses(t, "Decode", b64.Decode, s)
	}
}

// P5.1, R2: a fault in a long text is found wherever it stands, and no bytes are told.
func TestLongLettersWithAFault(t *testing.T) {
	right := modelLetters(pattern(997, 3, 5))
	for _, at := range []int{0, 1, 2, 3, 4, 500, 501, 502, 503, len(right) - 5, len(right) - 4, len(right) - 3, len(right) - 2} {
		for _, sign := range "=\n -_.é" {
			s := right[:at] + fmt.Sprintf("%c", sign) + right[at+1:]
			if sign == '=' && at == len(right)-2 { // it stands there already
				continue
			}
			refuses(t, "Decode", b64.Decode, s)
		}
	}
	for n := range len(right) {
		if n%4 != 0 {
			refuses(t, "Decode", b64.Decode, right[:n])
		}
	}
}

// P5.3: bytes that are not the same have letters that are not the same.
func TestLettersAndBytesOneByOne(t *testing.T) {
	seen := map[string]string{}
	note := func(b []byte) {
		s := b64.Encode(b)
		if was, ok := seen[s]; ok && was != string(b) {
			t.Errorf("%q: of %x and of %x", s, was, b)
		}
		seen[s] = string(b)
	}
	note(nil)
	for n := range 1 << 8 {
		note([]byte{byte(n)})
		for m := range 1 << 8 {
			note([]byte{byte(n), byte(m)})
			note([]byte{byte(n), byte(m), 0})
			note([]byte{0, byte(n), byte(m)})
			note([]byte{1, 2, 3, byte(n), byte(m)})
		}
	}
	if len(seen) != 1+256+4*65536-256 { // of three bytes, 256 come twice: a nought ahead and one behind
		t.Errorf("%d letters", len(seen))
	}
}

// P5.3: of all texts of four signs among which are fillers and wrong ones, those are right that are the letters of what they decode to.
func TestTextsAndLettersOneByOne(t *testing.T) {
	const signs = "AQgw/+M=\n-"
	right := 0
	for n := range 10 * 10 * 10 * 10 {
		for _, ahead := range []string{"", "Zm9v"} {
			s := ahead + string([]byte{signs[n/1000], signs[n/100%10], signs[n/10%10], signs[n%10]})
			b, e := b64.Decode(s)
			if e != api.OK {
				refuses(t, "Decode", b64.Decode, s)
				continue
			}
			right++
			areLetters(t, b, s)
			if modelLetters(b) != s {
				t.Errorf("%q: %x, whose letters are %q", s, b, modelLetters(b))
			}
		}
	}
	// Seven of the signs are letters; of those four stand for a number whose lowest four bits are noughts, and five for one whose lowest two are.
	if want := 2 * (7*7*7*7 + 7*7*5 + 7*4); right != want {
		t.Errorf("%d texts are right, not %d", right, want)
	}
}
