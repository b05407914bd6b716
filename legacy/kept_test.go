package legacy_test

import (
	"slices"
	"strings"
	"testing"
	"unsafe"

	"pantile/api"
	"pantile/legacy"
)

// R4: leaves that are put are not changed, their spare room neither, and what is done to them later changes nothing.
func TestLeavesAreNotKept(t *testing.T) {
	l, d, m := made(t, 3, 0)
	whole := append(some(9, "put"), some(3, "spare")...)
	was := slices.Clone(whole)
	m = put(t, l, m, whole[:9], 5000)
	is(t, "refused", l.Put(whole[:9], m.headed(5000)), api.ErrArg)
	if !slices.Equal(whole, was) {
		t.Error("what was handed in is changed")
	}
	for i := range whole {
		whole[i] = api.Leaf{Time: 1, Cert: "spoilt"}
	}
	holds(t, "spoilt", l, d, m)
}

// R4: lists that are told are new, spare room and all.
func TestListsAreNew(t *testing.T) {
	l, d, m := made(t, 9, 7)
	for range 2 {
		staged, heads := l.Staged(), l.Heads()
		otherStaged, otherHeads := l.Staged(), l.Heads()
		staged, heads = staged[:cap(staged)], heads[:cap(heads)]
		for i := range staged {
			staged[i] = api.Leaf{Time: 1, Cert: "spoilt"}
		}
		for i := range heads {
			heads[i] = api.Head{Size: 1, Time: 1, Root: "spoilt"}
		}
		if !slices.Equal(otherStaged, m.staged) || !slices.Equal(otherHeads, m.heads) {
			t.Error("what was told already is changed")
		}
		holds(t, "spoilt", l, d, m)
		l = opened(t, d)
	}
}

// within tells whether a text is a piece of another one.
func within(whole, s string) bool {
	begin, at := uintptr(unsafe.Pointer(unsafe.StringData(whole))), uintptr(unsafe.Pointer(unsafe.StringData(s)))
	return s != "" && begin <= at && at < begin+uintptr(len(whole))
}

// told are all texts that a log tells.
func told(t *testing.T, l *legacy.Log) (out []string) {
	t.Helper()
	for _, x := range l.Staged() {
		out = append(out, x.Cert)
	}
	for _, h := range l.Heads() {
		out = append(out, h.Root)
	}
	for i := range l.Size() {
		x, e := l.Leaf(i)
		is(t, "Leaf", e, api.OK)
		h, _ := l.Node(0, i)
		out = append(out, x.Cert, h)
	}
	h, _ := l.Last()
	return append(out, h.Root)
}

// R4: no text that is told is a piece of one that was handed in.
func TestTextsAreNew(t *testing.T) {
	text := strings.Repeat("abcdefgh", 100)
	l, d, m := made(t, 2, 0)
	leaves := []api.Leaf{{Time: 1, Cert: text[:300]}, {Time: 2, Cert: text[400:450]}, {Time: 3, Cert: text[:300]}}
	h := model{leaves: slices.Concat(m.leaves, leaves)}.headed(5000)
	m, _ = m.put(leaves, h)
	is(t, "Put", l.Put(leaves, h), api.OK)
	for _, cert := range []string{text[:7], text[:300], text[3:90], text[:7]} {
		x, e := l.Add(cert, 9)
		if x.Cert != cert || e != api.OK || within(text, x.Cert) {
			t.Errorf("Add of %q: %v %v, a piece of it: %v", cert, x, e, within(text, x.Cert))
		}
		m, _, _ = m.add(cert, 9)
	}
	is(t, "Sequence", l.Sequence(5000, 1), api.OK)
	m, _ = m.sequence(5000, 1)
	for _, s := range told(t, l) {
		if within(text, s) || within(h.Root, s) {
			t.Errorf("%.50q is a piece of what was handed in", s)
		}
	}
	holds(t, "pieces", l, d, m)
}

// R4, R2: nil and empty lists are one: neither may be put.
func TestNilAndEmpty(t *testing.T) {
	l, d, m := made(t, 4, 0)
	for _, none := range [][]api.Leaf{nil, {}} {
		is(t, "none", l.Put(none, m.headed(5000)), api.ErrArg)
	}
	holds(t, "none", l, d, m)
}

// R5: asked twice, and in between other calls that tell, it is the same; and telling does nothing.
func TestAskedTwice(t *testing.T) {
	l, d, m := made(t, 20, 5)
	was := lies(d)
	d.Arm(0)
	for range 3 {
		alike(t, "asked again", l, m)
	}
	d.Arm(-1)
	if lies(d) != was {
		t.Error("telling has done something")
	}
}

// R5: two logs of which the same was asked have left the same, byte for byte.
func TestSameBytes(t *testing.T) {
	_, first, _ := made(t, 20, 5)
	_, second, _ := made(t, 20, 5)
	if lies(first) != lies(second) {
		t.Error("they are not alike")
	}
}

// R5: two logs, on a drive each, have nothing in common.
func TestTwoLogs(t *testing.T) {
	a, x, m := made(t, 5, 2)
	b, y, n := made(t, 3, 0)
	n = add(t, b, n, "b", 1)
	holds(t, "the one", a, x, m)
	m = sequence(t, a, m, 1, 1)
	holds(t, "the other", b, y, n)
	holds(t, "the one", a, x, m)
}
