package b64_test

import (
	"bytes"
	"testing"

	"pantile/api"
	"pantile/b64"
)

// sizes are numbers of bytes around multiples of three, and some greater ones.
func sizes() []int { return []int{0, 1, 2, 3, 4, 5, 6, 7, 29, 30, 31, 32, 1000} }

// R4, R5: what is handed in is not changed, its spare room neither, and what stands there is not in the answer.
func TestHandedInIsNotChanged(t *testing.T) {
	for _, n := range sizes() {
		plain := pattern(n, 3, n)
		all := append(bytes.Clone(plain), bytes.Repeat([]byte{0xa5}, 50)...)
		was := bytes.Clone(all)
		letters, digits := b64.Encode(all[:n]), b64.Hex(all[:n])
		if !bytes.Equal(all, was) {
			t.Errorf("%d bytes handed in: %x", n, all)
		}
		if letters != modelLetters(plain) || digits != modelDigits(plain) {
			t.Errorf("%d bytes with room behind: %q %q", n, letters, digits)
		}
	}
}

// R4: what is handed in is not kept, neither in an answer nor for the next call.
func TestHandedInIsNotKept(t *testing.T) {
	for _, n := range sizes() {
		plain := pattern(n, 3, n)
		b := bytes.Clone(plain)
		letters, digits := b64.Encode(b), b64.Hex(b)
		clear(b)
		if letters != modelLetters(plain) || digits != modelDigits(plain) {
			t.Errorf("%d bytes, cleared behind: %q %q", n, letters, digits)
		}
		if b64.Encode(b) != modelLetters(b) || b64.Hex(b) != modelDigits(b) {
			t.Errorf("%d noughts", n)
		}
		areLetters(t, plain, letters)
		areDigits(t, plain, digits)
	}
}

// R4: each answer is new memory, its spare room too.
func TestAnswersAreNewMemory(t *testing.T) {
	for _, n := range sizes() {
		plain := pattern(n, 5, n)
		for what, call := range map[string]func() ([]byte, api.Errno){
			"Decode": func() ([]byte, api.Errno) { return b64.Decode(modelLetters(plain)) },
			"Unhex":  func() ([]byte, api.Errno) { return b64.Unhex(modelDigits(plain)) },
		} {
			first, _ := call()
			second, _ := call()
			for i := range first[:cap(first)] {
				first[:cap(first)][i] ^= 255
			}
			third, _ := call()
			if !bytes.Equal(second, plain) || !bytes.Equal(third, plain) {
				t.Errorf("%s of %d bytes: %x, and then %x", what, n, second, third)
			}
		}
	}
}

// R4: none are told for none, nil or not.
func TestNilAndEmptyAreOne(t *testing.T) {
	for _, b := range [][]byte{nil, {}, make([]byte, 0, 8)} {
		if s := b64.Encode(b); s != "" {
			t.Errorf("Encode: %q", s)
		}
		if s := b64.Hex(b); s != "" {
			t.Errorf("Hex: %q", s)
		}
	}
	if b, e := b64.Decode(""); len(b) != 0 || e != api.OK {
		t.Errorf("Decode: %x %d", b, e)
	}
	if b, e := b64.Unhex(""); len(b) != 0 || e != api.OK {
		t.Errorf("Unhex: %x %d", b, e)
	}
}

// R5: a call that was refused changes nothing of the next.
func TestRefusedChangesNothing(t *testing.T) {
	b := pattern(40, 3, 1)
	for _, s := range []string{"Zh==", "Zm9v=", "Zm9vZ===", "0A", "0"} {
		b64.Decode(s)
		b64.Unhex(s)
		areLetters(t, b, modelLetters(b))
		areDigits(t, b, modelDigits(b))
	}
}
