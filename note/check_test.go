package note_test

import (
	"bytes"
	"math/big"
	"slices"
	"strings"
	"testing"

	"pantile/api"
	"pantile/note"
	"pantile/point"
	"pantile/seal"
)

// noPoint are 32 bytes that are no point's.
func noPoint(t *testing.T) []byte {
	t.Helper()
	out := append([]byte{2}, make([]byte, 31)...)
	if _, e := point.Parse(out); e == api.OK {
		t.Fatalf("%x is a point", out)
	}
	return out
}

// keysOfOtherLengths are public keys that have not 32 bytes.
func keysOfOtherLengths(public []byte) [][]byte {
	return [][]byte{nil, {}, {1}, public[:31], public[1:], append(bytes.Clone(public), 0), append([]byte{0}, public...), slices.Concat(public, public)}
}

// P11.2, P11.3: the head is that of the note, without a time.
func TestCheckedHeads(t *testing.T) {
	k := key(t, 3)
	for _, size := range []int{0, 1, 12, mostLeaves} {
		s, _ := note.Sign(k, example, size, rootOf(size))
		if h, e := note.Check(k.Public(), example, s); h != (api.Head{Size: size, Root: rootOf(size)}) || e != api.OK {
			t.Errorf("of size %d: %+v %d", size, h, e)
		}
	}
}

// P11.2: what is no note is named ahead of all else.
func TestNoNoteIsNamedFirst(t *testing.T) {
	k := key(t, 3)
	s, _ := note.Sign(k, example, 12, rootOf(1))
	wrong := []string{"", "\n", s[1:], s[:len(s)-1], s + "\n", "x" + s, strings.Replace(s, "\n12\n", "\n012\n", 1), strings.Replace(s, "\n12\n", "\n1048577\n", 1), strings.Replace(s, "\n\n", "\n", 1), strings.Replace(s, "log", "Log", 2), strings.Replace(s, example, "log.example/b", 1), strings.Replace(s, dash, "-", 1)}
	for _, w := range wrong {
		answers(t, "no note", api.ErrForm, k.Public(), example, w)
		answers(t, "no note, another origin", api.ErrForm, k.Public(), "log.example/b", w)
		answers(t, "no note, no origin", api.ErrForm, k.Public(), "", w)
		answers(t, "no note, another key", api.ErrForm, key(t, 4).Public(), example, w)
		answers(t, "no note, no key", api.ErrForm, nil, "", w)
		answers(t, "no note, no point", api.ErrForm, noPoint(t), example, w)
	}
	for _, n := range []int{0, 4, 64, 67, 69} {
		text, _ := modelText(example, 12, rootOf(1))
		answers(t, "another length", api.ErrForm, k.Public(), example, noteOf(text, example, append(signatureOf(k, example, text), 0)[:n]))
	}
}

// P11.2: a note of another origin, whatever its key, its name and its seal are.
func TestOtherOrigins(t *testing.T) {
	k := key(t, 3)
	text, _ := modelText(example, 12, rootOf(1))
	signature := signatureOf(k, example, text)
	for _, origin := range []string{"log.example/b", "log.example", "log.example/a/", "log.example/", "a", "", "A", "log.Example/a", example + "\n", " " + example, strings.Repeat("a", 30), strings.Repeat("a", 31), strings.Repeat("a", 100000), "\xff"} {
		other := seal.Name(origin, k.Public())
		wrong := slices.Concat(other, bytes.Repeat([]byte{1}, 64))
		for _, public := range [][]byte{k.Public(), key(t, 4).Public(), noPoint(t), nil} {
			answers(t, "the right note", api.ErrKey, public, origin, noteOf(text, example, signature))
			answers(t, "with the other origin's name", api.ErrKey, public, origin, noteOf(text, example, slices.Concat(other, signature[4:])))
			answers(t, "with a wrong seal", api.ErrKey, public, origin, noteOf(text, example, wrong))
		}
	}
}

// P11.2: a note of another name, of each bit, whatever its seal is.
func TestOtherNames(t *testing.T) {
	k := key(t, 3)
	text, _ := modelText(example, 12, rootOf(1))
	signature := signatureOf(k, example, text)
	for bit := range 32 {
		other := bytes.Clone(signature)
		other[bit/8] ^= 1 << (bit % 8)
		answers(t, "another name", api.ErrKey, k.Public(), example, noteOf(text, example, other))
		other[67] ^= 255
		answers(t, "another name and a wrong seal", api.ErrKey, k.Public(), example, noteOf(text, example, other))
	}
	for what, name := range map[string][]byte{
		"another origin's": seal.Name("log.example/b", k.Public()),
		"another key's":    seal.Name(example, key(t, 4).Public()),
		"no key's":         seal.Name(example, nil),
		"no origin's":      seal.Name("", k.Public()),
		"turned":           {signature[3], signature[2], signature[1], signature[0]},
		"of noughts":       {0, 0, 0, 0},
	} {
		answers(t, what, api.ErrKey, k.Public(), example, noteOf(text, example, slices.Concat(name, signature[4:])))
	}
	answers(t, "behind the seal", api.ErrKey, k.Public(), example, noteOf(text, example, slices.Concat(signature[4:], signature[:4])))
	if h, e := note.Check(k.Public(), example, noteOf(text, example, signature)); h.Size != 12 || e != api.OK {
		t.Errorf("the right one: %+v %d", h, e)
	}
}

// P11.2: another public key than that of the note: its name is another one.
func TestOtherKeys(t *testing.T) {
	k := key(t, 3)
	s, _ := note.Sign(k, example, 12, rootOf(1))
	for n := range 20 {
		if n != 3 {
			answers(t, "another's", api.ErrKey, key(t, byte(n)).Public(), example, s)
		}
	}
	for bit := range 256 {
		other := k.Public()
		other[bit/8] ^= 1 << (bit % 8)
		answers(t, "another bit", api.ErrKey, other, example, s)
	}
	for _, other := range append(keysOfOtherLengths(k.Public()), noPoint(t)) {
		answers(t, "of another length", api.ErrKey, other, example, s)
	}
}

// P11.2: a public key that is none, of which the note has the name: the key is named ahead of the seal.
func TestNoKeyOfRightName(t *testing.T) {
	k := key(t, 3)
	text, _ := modelText(example, 12, rootOf(1))
	for _, public := range append(keysOfOtherLengths(k.Public()), noPoint(t)) {
		for _, sealed := range [][]byte{k.Seal([]byte(text)), make([]byte, 64), bytes.Repeat([]byte{255}, 64)} {
			answers(t, "no key", api.ErrKey, public, example, noteOf(text, example, slices.Concat(seal.Name(example, public), sealed)))
		}
	}
}

// P11.2: a seal that is not right: of another bit, of another key, of another origin, size or root.
func TestWrongSeals(t *testing.T) {
	k := key(t, 3)
	text, _ := modelText(example, 12, rootOf(1))
	signature := signatureOf(k, example, text)
	for bit := 32; bit < 544; bit++ {
		other := bytes.Clone(signature)
		other[bit/8] ^= 1 << (bit % 8)
		answers(t, "another bit", api.ErrSign, k.Public(), example, noteOf(text, example, other))
	}
	name := signature[:4]
	for what, sealed := range map[string][]byte{
		"another key's": key(t, 4).Seal([]byte(text)),
		"noughts":       make([]byte, 64),
		"ones":          bytes.Repeat([]byte{255}, 64),
		"turned":        slices.Concat(signature[36:], signature[4:36]),
		"L more":        moreByOrder(signature[4:]),
	} {
		answers(t, what, api.ErrSign, k.Public(), example, noteOf(text, example, slices.Concat(name, sealed)))
	}
	otherOrigin, _ := modelText("log.example/b", 12, rootOf(1))
	otherSize, _ := modelText(example, 13, rootOf(1))
	otherRoot, _ := modelText(example, 12, rootOf(2))
	for _, other := range []string{otherOrigin, otherSize, otherRoot} {
		answers(t, "a seal of another text", api.ErrSign, k.Public(), example, noteOf(text, example, slices.Concat(name, k.Seal([]byte(other)))))
	}
	answers(t, "another size", api.ErrSign, k.Public(), example, noteOf(otherSize, example, signature))
	answers(t, "another root", api.ErrSign, k.Public(), example, noteOf(otherRoot, example, signature))
	answers(t, "another origin and its name", api.ErrSign, k.Public(), "log.example/b", noteOf(otherOrigin, "log.example/b", slices.Concat(seal.Name("log.example/b", k.Public()), signature[4:])))
}

// moreByOrder is a seal with L more in its second half.
func moreByOrder(sealed []byte) []byte {
	order, _ := new(big.Int).SetString("27742317777372353535851937790883648493", 10)
	order.SetBit(order, 252, 1)
	second := bytes.Clone(sealed[32:])
	slices.Reverse(second)
	n := new(big.Int).SetBytes(second)
	second = n.Add(n, order).FillBytes(make([]byte, 32))
	slices.Reverse(second)
	return slices.Concat(sealed[:32], second)
}

// P11.2: what is sealed is the checkpoint's text, all of it and nothing else.
func TestWhatIsSealed(t *testing.T) {
	k := key(t, 3)
	text, _ := modelText(example, 12, rootOf(1))
	whole, _ := note.Sign(k, example, 12, rootOf(1))
	for _, other := range []string{"", text + "\n", text[:len(text)-1], "\n" + text, whole, text + "\n" + dash + " " + example + " ", string(seal.Name(example, k.Public())) + text, text + text, rootOf(1), strings.TrimPrefix(text, example+"\n")} {
		answers(t, "another text", api.ErrSign, k.Public(), example, noteOf(text, example, slices.Concat(seal.Name(example, k.Public()), k.Seal([]byte(other)))))
	}
	if h, e := note.Check(k.Public(), example, modelNote(k, example, text)); h != (api.Head{Size: 12, Root: rootOf(1)}) || e != api.OK {
		t.Errorf("the right one: %+v %d", h, e)
	}
}

// P11.3: a signed note of which one byte is another one is no note, or not checked.
func TestSpoiltNotesAreNotChecked(t *testing.T) {
	k := key(t, 3)
	s, _ := note.Sign(k, example, 12, rootOf(1))
	told := map[api.Errno]int{}
	for at := range len(s) {
		for _, c := range []byte("\n =+/Aa0.") {
			other := s[:at] + string([]byte{c}) + s[at+1:]
			if other == s {
				continue
			}
			h, e := note.Check(k.Public(), example, other)
			if h != (api.Head{}) || e != api.ErrForm && e != api.ErrKey && e != api.ErrSign {
				t.Errorf("Check(%q): %+v %d", other, h, e)
			}
			told[e]++
		}
	}
	if told[api.ErrForm] < 100 || told[api.ErrKey] < 10 || told[api.ErrSign] < 100 {
		t.Errorf("%v: these tell little", told)
	}
}
