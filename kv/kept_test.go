package kv_test

import (
	"slices"
	"strconv"
	"strings"
	"testing"
	"unsafe"

	"pantile/api"
	"pantile/drive"
	"pantile/kv"
)

// R4: a batch that is handed in is not changed, its spare room neither; nor is it kept: what is done to it later changes no store.
func TestBatchesAreNotKept(t *testing.T) {
	all := append(some(4, 3), gone("key1"), set("key2", "x"), gone("none"), gone("spare"), set("spare", "room"))
	was := slices.Clone(all)
	for n := range len(all) {
		s, d := fresh(t, roomy)
		m := model{}.with(was[:n]...)
		is(t, "Apply", s.Apply(all[:n]), api.OK)
		is(t, "a wrong one", s.Apply(append(slices.Clone(all[:n]), set("", ""))), api.ErrArg)
		if !slices.Equal(all, was) {
			t.Fatalf("Apply of %d writes left %v", n, all)
		}
		for i := range all {
			all[i] = set("spoilt", "spoilt")
		}
		alike(t, "spoilt", s, m)
		is(t, "Compact", s.Compact(), api.OK)
		alike(t, "spoilt", opened(t, d, "log"), m)
		copy(all, was)
	}
}

// within tells whether a text is a piece of another one.
func within(s, whole string) bool {
	at, begin := uintptr(unsafe.Pointer(unsafe.StringData(s))), uintptr(unsafe.Pointer(unsafe.StringData(whole)))
	return s != "" && begin <= at && at < begin+uintptr(len(whole))
}

// R4: neither keys nor values that are handed in are kept, nor what is asked for.
func TestTextsAreNotKept(t *testing.T) {
	whole := strings.Repeat("t", 1000)
	s, d := fresh(t, roomy)
	batch := []api.Write{set(whole[:10], whole[10:500]), set(whole[20:40], whole[600:601]), gone(whole[30:33]), set(whole[:5], "")}
	is(t, "Apply", s.Apply(batch), api.OK)
	is(t, "Apply", s.Apply([]api.Write{set(whole[100:110], whole[:7])}), api.OK)
	for _, x := range []*kv.Store{s, opened(t, d, "log")} {
		keys := x.Keys(whole[700:702])
		if len(keys) != 3 {
			t.Errorf("keys %q", keys)
		}
		for _, key := range keys {
			if v, _ := x.Get(whole[:len(key)]); within(key, whole) || within(v, whole) {
				t.Errorf("the key of %d bytes, or its value, is a piece of what was handed in", len(key))
			}
		}
	}
}

// R4: keys that were told are new: what is done to the list changes neither the store nor another list, and what is done to the store no list.
func TestKeysAreNew(t *testing.T) {
	s, _ := fresh(t, roomy)
	m := model{}.with(some(9, 2)...)
	is(t, "Apply", s.Apply(some(9, 2)), api.OK)
	first, second, part := s.Keys(""), s.Keys(""), s.Keys("key1")
	first = first[:cap(first)]
	for i := range first {
		first[i] = "spoilt"
	}
	_ = append(part[:0], "spoilt", "spoilt", "spoilt")
	alike(t, "spoilt", s, m)
	is(t, "Apply", s.Apply([]api.Write{gone("key0"), gone("key8"), set("a", "")}), api.OK)
	if !slices.Equal(second, m.keys("")) {
		t.Errorf("keys that were told already are changed: %q", second)
	}
}

// R4: no writes, and a list of none, are one; no keys are told as a list of none.
func TestNilAndEmpty(t *testing.T) {
	s, d := fresh(t, roomy)
	was := lies(d)
	for _, batch := range [][]api.Write{nil, {}, some(3, 3)[:0]} {
		is(t, "Apply", s.Apply(batch), api.OK)
		if len(s.Keys("")) != 0 || lies(d) != was {
			t.Errorf("keys %q", s.Keys(""))
		}
	}
}

// R5: what lies on the drive hangs on what was asked alone, on no order of a map's keys; and so does what is told.
func TestTheSameAgain(t *testing.T) {
	once := func() string {
		s, d := fresh(t, roomy)
		var out []string
		for i := range 20 {
			is(t, "Apply", s.Apply(append(some(30, i), gone("key"+strconv.Itoa(i)), gone("none"))), api.OK)
			if i%6 == 5 {
				is(t, "Compact", s.Compact(), api.OK)
			}
			out = append(out, lies(d), strings.Join(s.Keys("k"), " "))
		}
		return strings.Join(out, "\n")
	}
	want := once()
	for range 10 {
		if once() != want {
			t.Fatal("the same calls have left something else")
		}
	}
}

// R5: stores of other drives stand each for itself.
func TestDrivesApart(t *testing.T) {
	s, _ := fresh(t, roomy)
	other, x := fresh(t, roomy)
	is(t, "Apply", s.Apply(some(3, 3)), api.OK)
	alike(t, "the other", other, nil)
	is(t, "Apply", other.Apply([]api.Write{set("a", "1")}), api.OK)
	cut(t, x)
	is(t, "the other's", other.Compact(), api.ErrDown)
	is(t, "Compact", s.Compact(), api.OK)
	alike(t, "the one", s, model{}.with(some(3, 3)...))
	if _, e := kv.Open(drive.New(0), "log"); e != api.OK || !s.Alive() {
		t.Errorf("a third one: %v", e)
	}
}

// R2: beside an error there is no store.
func TestNoStoreBesideAnError(t *testing.T) {
	d := drive.New(10)
	lay(t, d, "log.log", "torn")
	for _, name := range []string{"", "log"} {
		if s, e := kv.Open(d, name); s != nil || e == api.OK {
			t.Errorf("Open(%q): %v", name, e)
		}
	}
}
