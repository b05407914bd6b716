package seal_test

import (
	"bytes"
	"testing"

	"pantile/api"
	"pantile/seal"
)

// roomy is a copy of bytes with marked room behind, and all of it.
func roomy(b []byte) (short, all []byte) {
	all = append(bytes.Clone(b), bytes.Repeat([]byte{0xa5}, 200)...)
	return all[:len(b)], all
}

// R4: what is handed in is not changed, its spare room neither.
func TestHandedInIsNotChanged(t *testing.T) {
	for i, secret := range secrets() {
		plain := pattern(i*9, 5, i)
		m := modelOf(secret)
		s, allSecret := roomy(secret)
		msg, allMsg := roomy(plain)
		made, allMade := roomy(m.seal(plain))
		public, allPublic := roomy(m.public)
		was := [][]byte{bytes.Clone(allSecret), bytes.Clone(allMsg), bytes.Clone(allMade), bytes.Clone(allPublic)}
		key(t, s).Seal(msg)
		answers(t, "right", api.OK, public, msg, made)
		seal.Check(public, msg, made[:40])
		seal.Check(public[:31], msg, made)
		seal.Check(public, made, made)
		seal.Name("log.example", public)
		seal.Name("log.example", msg)
		seal.New(s[:31])
		for j, all := range [][]byte{allSecret, allMsg, allMade, allPublic} {
			are(t, "handed in", all, was[j])
		}
	}
}

// R4: what is handed in is not kept.
func TestHandedInIsNotKept(t *testing.T) {
	secret := pattern(32, 3, 20)
	m := modelOf(secret)
	k := key(t, secret)
	clear(secret)
	are(t, "Public", k.Public(), m.public)
	msg := []byte("a leaf")
	made := k.Seal(msg)
	clear(msg)
	are(t, "Seal", made, m.seal([]byte("a leaf")))
	are(t, "Seal again", k.Seal([]byte("a leaf")), made)
	public := k.Public()
	name := seal.Name("log.example", public)
	clear(public)
	are(t, "Name", name, seal.Name("log.example", m.public))
}

// R4: each answer is new memory, its spare room too.
func TestAnswersAreNewMemory(t *testing.T) {
	k := key(t, pattern(32, 3, 21))
	public := k.Public()
	for what, answer := range map[string]func() []byte{
		"Public":       k.Public,
		"Seal":         func() []byte { return k.Seal([]byte("a leaf")) },
		"Seal, nil":    func() []byte { return k.Seal(nil) },
		"Name":         func() []byte { return seal.Name("log.example", public) },
		"Name of none": func() []byte { return seal.Name("", nil) },
	} {
		first, second := answer(), answer()
		want := bytes.Clone(second)
		for i := range first[:cap(first)] {
			first[:cap(first)][i] ^= 255
		}
		are(t, what+" told ahead", second, want)
		are(t, what+" told behind", answer(), want)
	}
	are(t, "handed in", public, k.Public())
	answers(t, "still", api.OK, public, []byte("a leaf"), k.Seal([]byte("a leaf")))
}

// R4: keys are apart: neither is touched by what another one does.
func TestKeysAreApart(t *testing.T) {
	one, other := pattern(32, 3, 22), pattern(32, 3, 23)
	k, beside := key(t, one), key(t, other)
	for range 3 {
		are(t, "one's", k.Seal([]byte("x")), modelOf(one).seal([]byte("x")))
		are(t, "the other's", beside.Seal([]byte("x")), modelOf(other).seal([]byte("x")))
		are(t, "one's public key", k.Public(), modelOf(one).public)
	}
}
