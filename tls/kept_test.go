package tls_test

import (
	"bytes"
	"slices"
	"strings"
	"testing"
	"unsafe"

	"pantile/api"
	"pantile/tls"
)

// room is bytes with spare room behind them, which is full of others.
func room(b []byte) []byte { return append(bytes.Clone(b), bytes.Repeat([]byte{0xa5}, 50)...)[:len(b)] }

// whole is bytes and their spare room.
func whole(b []byte) []byte { return b[:cap(b)] }

// spoil changes bytes and their spare room.
func spoil(b []byte) {
	for i := range whole(b) {
		whole(b)[i] ^= 255
	}
}

// calls are all calls that are handed bytes, each of which tells an answer as bytes.
func calls() map[string]func([]byte) []byte {
	return map[string]func([]byte) []byte{
		"Parse": func(b []byte) []byte {
			l, e := tls.Parse(b)
			return append([]byte(l.Cert), byte(l.Time), byte(e))
		},
		"Signature": tls.Signature,
		"Split": func(b []byte) []byte {
			l, e := tls.Split(b)
			return append(bytes.Join(l, []byte("|")), byte(e))
		},
		"Join": func(b []byte) []byte {
			joined, e := tls.Join([][]byte{b, b[:len(b)/2]})
			return append(joined, byte(e))
		},
	}
}

// handed are bytes that one call takes and others refuse.
func handed() [][]byte {
	leaf, _ := modelLeaf(api.Leaf{Time: 7, Cert: "cert"})
	return [][]byte{leaf, leaf[:9], append(leaf, 1), modelJoin([][]byte{[]byte("one"), nil, []byte("other")}), {0, 0}, {0, 3, 'a'}, {0}, {}, make([]byte, 70000)}
}

// R4, R5: what is handed in is not changed, its spare room neither, and what stands there is not in the answer.
func TestHandedInIsNotChanged(t *testing.T) {
	for what, call := range calls() {
		for _, plain := range handed() {
			b := room(plain)
			was := bytes.Clone(whole(b))
			if got := call(b); !bytes.Equal(whole(b), was) || !bytes.Equal(got, call(slices.Clip(bytes.Clone(plain)))) {
				t.Errorf("%s of %.40x with room behind: %.100x, and %.100x is left", what, plain, got, whole(b))
			}
		}
	}
	l := [][]byte{[]byte("a"), []byte("b"), []byte("room"), make([]byte, 65536)}
	if b, e := tls.Join(l[:2]); string(b) != "\x00\x01a\x00\x01b" || e != api.OK {
		t.Errorf("Join of two with others in the room behind: %x %d", b, e)
	}
	if string(bytes.Join(l[:3], nil)) != "abroom" || !bytes.Equal(l[3], make([]byte, 65536)) {
		t.Errorf("handed in, behind Join: %q", l[:3])
	}
}

// R4: what is handed in is not kept, neither in an answer nor for the next call.
func TestHandedInIsNotKept(t *testing.T) {
	leaf, _ := modelLeaf(api.Leaf{Time: 7, Cert: "cert"})
	b := bytes.Clone(leaf)
	l, _ := tls.Parse(b)
	spoil(b)
	if l != (api.Leaf{Time: 7, Cert: "cert"}) {
		t.Errorf("Parse, and then bytes that are changed: %d %q", l.Time, l.Cert)
	}
	parsesTo(t, api.OK, leaf)
	for _, n := range []int{0, 1, 64, 65536} {
		plain := pattern(n, 3, 1)
		b := bytes.Clone(plain)
		s := tls.Signature(b)
		spoil(b)
		if !bytes.Equal(s[4:], plain) {
			t.Errorf("Signature of %d bytes, and then bytes that are changed", n)
		}
	}
	texts := [][]byte{[]byte("one"), nil, []byte("other")}
	joined, _ := tls.Join(texts)
	was := bytes.Clone(joined)
	split, _ := tls.Split(joined)
	spoil(joined)
	if !sameTexts(split, texts) {
		t.Errorf("Split, and then bytes that are changed: %q", split)
	}
	joined, _ = tls.Join(texts)
	spoil(texts[0])
	texts[2] = []byte("another")
	if !bytes.Equal(joined, was) {
		t.Errorf("Join, and then texts that are changed: %q", joined)
	}
}

// R4: each answer is new memory, its spare room too.
func TestAnswersAreNewMemory(t *testing.T) {
	cert, root := strings.Repeat("c", 20), strings.Repeat("r", 32)
	signature, texts := pattern(64, 3, 1), [][]byte{[]byte("one"), []byte("other")}
	for what, call := range map[string]func() []byte{
		"Leaf":      func() []byte { b, _ := tls.Leaf(api.Leaf{Time: 9, Cert: cert}); return b },
		"Signed":    func() []byte { b, _ := tls.Signed(api.Leaf{Time: 9, Cert: cert}); return b },
		"Head":      func() []byte { b, _ := tls.Head(api.Head{Size: 9, Time: 9, Root: root}); return b },
		"Signature": func() []byte { return tls.Signature(signature) },
		"Join":      func() []byte { b, _ := tls.Join(texts); return b },
	} {
		first, second := call(), call()
		was := bytes.Clone(second)
		spoil(first)
		if third := call(); !bytes.Equal(second, was) || !bytes.Equal(third, was) || len(was) == 0 {
			t.Errorf("%s: %x, and then %x and %x", what, was, second, third)
		}
	}
	if cert != strings.Repeat("c", 20) || root != strings.Repeat("r", 32) || !bytes.Equal(signature, pattern(64, 3, 1)) || string(bytes.Join(texts, nil)) != "oneother" {
		t.Errorf("handed in: %q %q %x %q", cert, root, signature, texts)
	}
}

// R4: no two texts that were split share memory, their spare room neither, nor do they with those of another call.
func TestSplitTextsAreNewMemory(t *testing.T) {
	want := [][]byte{[]byte("one"), nil, []byte("other"), nil, pattern(100, 3, 1), []byte("last")}
	joined := room(modelJoin(want))
	was := bytes.Clone(whole(joined))
	second, _ := tls.Split(joined)
	for i := range want {
		first, _ := tls.Split(joined)
		spoil(first[i])
		first[i] = append(first[i], "more than there was, and more than there is room for, so that it is seen"...)
		others := slices.Delete(slices.Clone(want), i, i+1)
		if !sameTexts(slices.Delete(first, i, i+1), others) || !sameTexts(second, want) || !bytes.Equal(whole(joined), was) {
			t.Errorf("text %d is changed: %q, %q, %q", i, first, second, joined)
		}
	}
	first, _ := tls.Split(joined)
	clear(first[:cap(first)])
	if !sameTexts(second, want) {
		t.Errorf("a list is cleared: %q", second)
	}
}

// R4: a Cert that is read is no piece of what was handed in, and texts neither.
func TestReadIsNotAPiece(t *testing.T) {
	leaf, _ := modelLeaf(api.Leaf{Time: 7, Cert: "cert"})
	l, _ := tls.Parse(leaf)
	joined := modelJoin([][]byte{[]byte("one"), []byte("other")})
	texts, _ := tls.Split(joined)
	inside := func(all []byte, p *byte) bool {
		begin, at := uintptr(unsafe.Pointer(unsafe.SliceData(all))), uintptr(unsafe.Pointer(p))
		return at >= begin && at < begin+uintptr(cap(all))
	}
	if inside(leaf, unsafe.StringData(l.Cert)) || inside(joined, unsafe.SliceData(texts[0])) || inside(joined, unsafe.SliceData(texts[1])) {
		t.Errorf("%q %q: pieces of what was handed in", l.Cert, texts)
	}
}

// R4: nil and empty lists are one.
func TestNilAndEmptyAreOne(t *testing.T) {
	for _, b := range [][]byte{nil, {}, make([]byte, 0, 8), make([]byte, 8)[:0]} {
		parsesTo(t, api.ErrShort, b)
		if !splits(t, b) {
			t.Error("Split of none: too short")
		}
		if s := tls.Signature(b); !bytes.Equal(s, []byte{8, 7, 0, 0}) {
			t.Errorf("Signature of none: %x", s)
		}
		joins(t, b)
		joins(t, b, []byte("a"), b)
	}
	for _, l := range [][][]byte{nil, {}, make([][]byte, 3)[:0]} {
		joins(t, l...)
	}
}

// R5: a call that was refused changes nothing of the next.
func TestRefusedChangesNothing(t *testing.T) {
	leaf, _ := modelLeaf(api.Leaf{Time: 7, Cert: "cert"})
	root := strings.Repeat("r", 32)
	for range 3 {
		looksLeaf(t, api.Leaf{Time: -1, Cert: "cert"})
		looksLeaf(t, api.Leaf{Time: 7})
		looksHead(t, api.Head{Size: -1, Root: root})
		looksHead(t, api.Head{Size: 1, Root: root[1:]})
		parsesTo(t, api.ErrShort, leaf[:len(leaf)-1])
		parsesTo(t, api.ErrBytes, append(bytes.Clone(leaf), 0))
		splits(t, []byte{0, 1, 'a', 0})
		tls.Join([][]byte{[]byte("a"), make([]byte, 65536)})
		looksLeaf(t, api.Leaf{Time: 7, Cert: "cert"})
		looksHead(t, api.Head{Size: 1, Root: root})
		joins(t, []byte("a"), nil)
	}
}
