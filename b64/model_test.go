package b64_test

import (
	"bytes"
	"strings"
	"testing"

	"pantile/api"
	"pantile/b64"
)

const (
	allLetters = "ABCDEFGHIJKLMNOPQRSTUVWXYZabcdefghijklmnopqrstuvwxyz0123456789+/"
	allDigits  = "0123456789abcdef"
)

// bitsOf are the bits of bytes, the highest first, each a sign.
func bitsOf(b []byte) string {
	var out strings.Builder
	for _, v := range b {
		for i := 7; i >= 0; i-- {
			out.WriteByte('0' + v>>i&1)
		}
	}
	return out.String()
}

// signsOf takes bits so many at a time, and tells for each number its sign.
func signsOf(bits, signs string, width int) string {
	var out strings.Builder
	for ; len(bits) > 0; bits = bits[width:] {
		n := 0
		for _, bit := range bits[:width] {
			n = 2*n + int(bit-'0')
		}
		out.WriteByte(signs[n])
	}
	return out.String()
}

// modelLetters are the letters of bytes, by the chapter's words.
func modelLetters(b []byte) string {
	switch len(b) % 3 {
	case 1:
		return signsOf(bitsOf(b)+"0000", allLetters, 6) + "=="
	case 2:
		return signsOf(bitsOf(b)+"00", allLetters, 6) + "="
	}
	return signsOf(bitsOf(b), allLetters, 6)
}

// modelDigits are the digits of bytes, by the chapter's words.
func modelDigits(b []byte) string { return signsOf(bitsOf(b), allDigits, 4) }

// pattern is so many bytes that go from a first one on by a step.
func pattern(n, step, first int) []byte {
	out := make([]byte, n)
	for i := range out {
		out[i] = byte(first + i*step + i*i/7)
	}
	return out
}

// isBoth looks at a text in both directions: what encodes to it, and what it decodes to.
func isBoth(t *testing.T, what string, encode func([]byte) string, decode func(string) ([]byte, api.Errno), b []byte, text string) {
	t.Helper()
	if got := encode(b); got != text {
		t.Errorf("%s: of %x: %q, not %q", what, b, got, text)
	}
	got, e := decode(text)
	if e != api.OK || !bytes.Equal(got, b) {
		t.Errorf("%s: of %q: %x %d, not %x", what, text, got, e, b)
	}
}

// areLetters looks at bytes and their letters.
func areLetters(t *testing.T, b []byte, text string) {
	t.Helper()
	isBoth(t, "letters", b64.Encode, b64.Decode, b, text)
}

// areDigits looks at bytes and their digits.
func areDigits(t *testing.T, b []byte, text string) {
	t.Helper()
	isBoth(t, "digits", b64.Hex, b64.Unhex, b, text)
}

// refuses looks that a text is refused, without bytes.
func refuses(t *testing.T, what string, decode func(string) ([]byte, api.Errno), text string) {
	t.Helper()
	if b, e := decode(text); len(b) != 0 || e != api.ErrForm {
		t.Errorf("%s of %q: %x %d, not refused", what, text, b, e)
	}
}
