package note_test

import (
	"bytes"
	"testing"
	"unsafe"

	"pantile/api"
	"pantile/note"
)

// R4: a public key that is handed in is not changed, its spare room neither, and what stands there does not matter.
func TestHandedInIsNotChanged(t *testing.T) {
	k := key(t, 3)
	s, _ := note.Sign(k, example, 12, rootOf(1))
	all := append(k.Public(), bytes.Repeat([]byte{0xa5}, 100)...)
	was := bytes.Clone(all)
	for _, public := range [][]byte{all[:32], all[:31], all[:0], all[:33]} {
		want := api.ErrKey
		if len(public) == 32 {
			want = api.OK
		}
		if _, e := note.Check(public, example, s); e != want || !bytes.Equal(all, was) {
			t.Errorf("Check of a key of %d bytes with room behind: %d, and %x is left", len(public), e, all)
		}
		note.Check(public, "log.example/b", s)
		note.Check(public, example, s[1:])
		if !bytes.Equal(all, was) {
			t.Errorf("handed in: %x is left of %x", all, was)
		}
	}
}

// R4: neither a key nor what it told is kept or changed.
func TestHandedInIsNotKept(t *testing.T) {
	k := key(t, 3)
	public := k.Public()
	s, _ := note.Sign(k, example, 12, rootOf(1))
	if h, e := note.Check(public, example, s); h.Size != 12 || e != api.OK {
		t.Errorf("Check: %+v %d", h, e)
	}
	clear(public)
	answers(t, "a key that is changed", api.ErrKey, public, example, s)
	if h, e := note.Check(k.Public(), example, s); h.Size != 12 || e != api.OK {
		t.Errorf("Check, and then a key that is changed: %+v %d", h, e)
	}
	if again, e := note.Sign(k, example, 12, rootOf(1)); again != s || e != api.OK {
		t.Errorf("Sign again: %q %d, not %q", again, e, s)
	}
}

// R4: each signature that is read is new memory, its spare room too.
func TestAnswersAreNewMemory(t *testing.T) {
	for _, s := range []string{right(), known()[0].note} {
		_, _, first, _ := note.Read(s)
		_, _, second, _ := note.Read(s)
		was := bytes.Clone(second)
		for i := range first[:cap(first)] {
			first[:cap(first)][i] ^= 255
		}
		if !bytes.Equal(second, was) || !reads(t, s) {
			t.Errorf("Read of %q: %x, and then %x", s, was, second)
		}
	}
}

// R4: what is read is no piece of the note that was handed in, and a signed note no piece of its texts.
func TestReadIsNotAPiece(t *testing.T) {
	s, origin := right(), example
	inside := func(all, piece string) bool {
		begin, at := uintptr(unsafe.Pointer(unsafe.StringData(all))), uintptr(unsafe.Pointer(unsafe.StringData(piece)))
		return len(piece) == 0 || at >= begin && at < begin+uintptr(len(all))
	}
	from, h, _, _ := note.Read(s)
	if inside(s, from) || inside(s, h.Root) {
		t.Errorf("Read: %q %q: pieces of what was handed in", from, h.Root)
	}
	k := key(t, 3)
	signed, _ := note.Sign(k, origin, 12, rootOf(1))
	if h, _ := note.Check(k.Public(), origin, signed); inside(signed, h.Root) {
		t.Errorf("Check: %q: a piece of what was handed in", h.Root)
	}
	if text, _ := note.Text(origin, 12, rootOf(1)); inside(origin, text) || inside(origin, signed) {
		t.Errorf("%q %q: pieces of what was handed in", text, signed)
	}
}

// R4: nil and empty lists are one.
func TestNilAndEmptyAreOne(t *testing.T) {
	k := key(t, 3)
	s, _ := note.Sign(k, example, 12, rootOf(1))
	for _, public := range [][]byte{nil, {}, make([]byte, 0, 32), make([]byte, 32)[:0]} {
		answers(t, "none", api.ErrKey, public, example, s)
		answers(t, "none", api.ErrForm, public, example, "")
	}
}

// R5: a call that was refused changes nothing of the next, and neither does another's note.
func TestRefusedChangesNothing(t *testing.T) {
	k, other := key(t, 3), key(t, 4)
	s, _ := note.Sign(k, example, 12, rootOf(1))
	for range 3 {
		for _, w := range wrongs() {
			writes(t, w.origin, w.size, w.root)
		}
		refusesEach(t, "", s[1:], s+"\n", s[:40])
		answers(t, "another key", api.ErrKey, other.Public(), example, s)
		answers(t, "no note", api.ErrForm, k.Public(), example, s[1:])
		signs(t, other, "a", 1, rootOf(2))
		takesEach(t, s, right())
		writes(t, example, 12, rootOf(1))
		if again, e := note.Sign(k, example, 12, rootOf(1)); again != s || e != api.OK {
			t.Errorf("Sign again: %q %d", again, e)
		}
		if h, e := note.Check(k.Public(), example, s); h != (api.Head{Size: 12, Root: rootOf(1)}) || e != api.OK {
			t.Errorf("Check again: %+v %d", h, e)
		}
	}
}
