package note_test

import (
	"bytes"
	"encoding/hex"
	"fmt"
	"iter"
	"regexp"
	"slices"
	"strconv"
	"strings"
	"testing"

	"pantile/api"
	"pantile/digest"
	"pantile/note"
	"pantile/seal"
)

const (
	mostLeaves = 1048576
	allLetters = "ABCDEFGHIJKLMNOPQRSTUVWXYZabcdefghijklmnopqrstuvwxyz0123456789+/"
	dash       = "\xe2\x80\x94"
)

// chance tells numbers that seem to come by chance, the same ones each time.
type chance uint64

// below is a number from 0 to n - 1.
func (c *chance) below(n int) int {
	*c = *c*6364136223846793005 + 1442695040888963407
	return int(uint64(*c)>>33) % n
}

// bytes are so many bytes.
func (c *chance) bytes(n int) []byte {
	out := make([]byte, n)
	for i := range out {
		out[i] = byte(c.below(256))
	}
	return out
}

// modelLetters are the letters of bytes, bit by bit.
func modelLetters(b []byte) string {
	bits := ""
	for _, v := range b {
		bits += fmt.Sprintf("%08b", v)
	}
	bits += strings.Repeat("0", (6-len(bits)%6)%6)
	out := ""
	for ; bits != ""; bits = bits[6:] {
		n, err := strconv.ParseInt(bits[:6], 2, 8)
		if err != nil {
			panic(err)
		}
		out += allLetters[n:][:1]
	}
	return out + strings.Repeat("=", (3-len(b)%3)%3)
}

// modelBytes are the bytes of so many that letters without fillers begin with, bit by bit.
func modelBytes(letters string, many int) (out []byte) {
	bits := ""
	for _, c := range []byte(letters) {
		bits += fmt.Sprintf("%06b", strings.IndexByte(allLetters, c))
	}
	for at := range many {
		n, err := strconv.ParseUint(bits[8*at:][:8], 2, 8)
		if err != nil {
			panic(err)
		}
		out = append(out, byte(n))
	}
	return out
}

var (
	originForm = regexp.MustCompile(`\A[a-z0-9./-]{1,30}\z`)
	noteForm   = regexp.MustCompile(`\A([^\n]*)\n(0|[1-9][0-9]{0,6})\n([A-Za-z0-9+/]{42}[AEIMQUYcgkosw048])=\n\n\x{2014} ([^ \n]*) ([A-Za-z0-9+/]{90}[AEIMQUYcgkosw048])=\n\z`)
)

// modelText is a checkpoint's text, if there is one.
func modelText(origin string, size int, root string) (string, bool) {
	if !originForm.MatchString(origin) || size < 0 || size > mostLeaves || len(root) != 32 {
		return "", false
	}
	return fmt.Sprintf("%s\n%d\n%s\n", origin, size, modelLetters([]byte(root))), true
}

// noteOf is a note of any texts and any bytes, right or not.
func noteOf(text, origin string, signature []byte) string {
	return text + "\n" + dash + " " + origin + " " + modelLetters(signature) + "\n"
}

// signatureOf is a key's name, by the words of its chapter, and its seal of a text.
func signatureOf(k *seal.Key, origin, text string) []byte {
	name := digest.Sum256([]byte(origin+"\n\x01"), k.Public())[:4]
	return slices.Concat(name, k.Seal([]byte(text)))
}

// modelNote is the note of a key, an origin and a checkpoint, right or not.
func modelNote(k *seal.Key, origin, text string) string {
	return noteOf(text, origin, signatureOf(k, origin, text))
}

// seen is what is read of a note.
type seen struct {
	origin    string
	size      int
	root      string
	signature string
}

// modelRead is what is read of a note, if it is one.
func modelRead(s string) (seen, bool) {
	found := noteForm.FindStringSubmatch(s)
	if found == nil || found[1] != found[4] || !originForm.MatchString(found[1]) {
		return seen{}, false
	}
	size, err := strconv.Atoi(found[2])
	if err != nil || size > mostLeaves {
		return seen{}, false
	}
	return seen{found[1], size, string(modelBytes(found[3], 32)), string(modelBytes(found[5], 68))}, true
}

// reads looks at Read of a text, by the model.
func reads(t *testing.T, s string) (right bool) {
	t.Helper()
	origin, h, signature, e := note.Read(s)
	want, right := modelRead(s)
	wantError := api.OK
	if !right {
		wantError = api.ErrForm
	}
	if got := (seen{origin, h.Size, h.Root, string(signature)}); got != want || h.Time != 0 || e != wantError {
		t.Errorf("Read(%.400q): %q %+v %x %d, not %d: %q %d %x %x", s, origin, h, signature, e, wantError, want.origin, want.size, want.root, want.signature)
	}
	return right
}

// takesEach looks that each of some texts is read, by the call and by the model.
func takesEach(t *testing.T, all ...string) {
	t.Helper()
	for _, s := range all {
		if !reads(t, s) {
			t.Errorf("%.400q is refused", s)
		}
	}
}

// refusesEach looks that each of some texts is refused, by the call and by the model.
func refusesEach(t *testing.T, all ...string) {
	t.Helper()
	for _, s := range all {
		if reads(t, s) {
			t.Errorf("%.400q is taken", s)
		}
	}
}

// writes looks at Text, by the model.
func writes(t *testing.T, origin string, size int, root string) (right bool) {
	t.Helper()
	s, e := note.Text(origin, size, root)
	want, right := modelText(origin, size, root)
	if right && (s != want || e != api.OK) || !right && (s != "" || e != api.ErrArg) {
		t.Errorf("Text(%.100q, %d, %.100q): %q %d, not %q %v", origin, size, root, s, e, want, right)
	}
	return right
}

// signs looks at Sign, by the model, and at what is read of it, and checked.
func signs(t *testing.T, k *seal.Key, origin string, size int, root string) (right bool) {
	t.Helper()
	s, e := note.Sign(k, origin, size, root)
	text, right := modelText(origin, size, root)
	if !right {
		if s != "" || e != api.ErrArg {
			t.Errorf("Sign(%.100q, %d, %.100q): %q %d, not refused", origin, size, root, s, e)
		}
		return false
	}
	if want := modelNote(k, origin, text); s != want || e != api.OK {
		t.Errorf("Sign(%q, %d, %x): %q %d, not %q", origin, size, root, s, e, want)
	}
	takesEach(t, s)
	got, h, signature, e := note.Read(s)
	if got != origin || h != (api.Head{Size: size, Root: root}) || !bytes.Equal(signature, signatureOf(k, origin, text)) || e != api.OK {
		t.Errorf("Read of a note of %q, %d, %x: %q %+v %x %d", origin, size, root, got, h, signature, e)
	}
	if h, e := note.Check(k.Public(), origin, s); h != (api.Head{Size: size, Root: root}) || e != api.OK {
		t.Errorf("Check of a note of %q, %d, %x: %+v %d", origin, size, root, h, e)
	}
	return true
}

// answers looks that Check answers an error, without a head.
func answers(t *testing.T, what string, want api.Errno, public []byte, origin, s string) {
	t.Helper()
	if h, e := note.Check(public, origin, s); h != (api.Head{}) || e != want {
		t.Errorf("%s: Check(%x, %.100q, %.400q): %+v %d, not %d", what, public, origin, s, h, e, want)
	}
}

// key is the key of a secret whose bytes are all the same.
func key(t *testing.T, b byte) *seal.Key {
	t.Helper()
	k, e := seal.New(bytes.Repeat([]byte{b}, 32))
	if e != api.OK {
		t.Fatalf("New: %d", e)
	}
	return k
}

// rootOf is a root that goes from a first byte on.
func rootOf(first int) string {
	out := make([]byte, 32)
	for i := range out {
		out[i] = byte(first + 37*i + i*i/7)
	}
	return string(out)
}

// ofDigits are the bytes of digits of sixteen.
func ofDigits(s string) []byte {
	b, err := hex.DecodeString(s)
	if err != nil {
		panic(err)
	}
	return b
}

// allBytes are all bytes, one behind the other.
func allBytes() string {
	out := make([]byte, 256)
	for i := range out {
		out[i] = byte(i)
	}
	return string(out)
}

// spoilt tells a text with one sign put in, put in another's place, left out, or twice, wherever it stands, and pieces of the text.
func spoilt(s, others string) iter.Seq[string] {
	return func(yield func(string) bool) {
		for at := range len(s) + 1 {
			if at > 0 && !yield(s[at:]) {
				return
			}
			if at < len(s) && (!yield(s[:at]) || !yield(s[:at]+s[at+1:]) || !yield(s[:at+1]+s[at:])) {
				return
			}
			for i := range len(others) {
				if !yield(s[:at]+others[i:i+1]+s[at:]) || at < len(s) && !yield(s[:at]+others[i:i+1]+s[at+1:]) {
					return
				}
			}
		}
	}
}
