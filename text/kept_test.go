package text_test

import (
	"slices"
	"strings"
	"testing"
	"unsafe"

	"pantile/api"
	"pantile/text"
)

// R4: a list that is handed in is not changed, its spare room neither, and what stands there is not found.
func TestHandedInIsNotChanged(t *testing.T) {
	l := []api.Pair{p("b", "1"), p("a", "2"), p("b", "3"), p("room", "4"), p("more", "5")}
	was := slices.Clone(l)
	for _, name := range []string{"a", "b", "c", "room", "more", ""} {
		want, there := map[string]string{"a": "2", "b": "1"}[name], name == "a" || name == "b"
		gets(t, l[:3], name, want, there)
		gets(t, l[:0], name, "", false)
		if !slices.Equal(l, was) {
			t.Errorf("handed in, behind Get(%q): %q", name, l)
		}
	}
}

// R4: a list that is handed in is not kept.
func TestHandedInIsNotKept(t *testing.T) {
	l := []api.Pair{p("a", "1"), p("b", "2")}
	v, _ := text.Get(l, "a")
	l[0], l[1] = p("b", "3"), p("a", "4")
	if v != "1" {
		t.Errorf("Get, and then a list that is changed: %q", v)
	}
	gets(t, l, "a", "4", true)
	gets(t, l, "b", "3", true)
	clear(l)
	gets(t, l, "a", "", false)
}

// R4: each list that is answered is new memory, its spare room too.
func TestAnswersAreNewMemory(t *testing.T) {
	for _, s := range []string{"", "a=1", "a=1&b=%41&c=", "a=1&b=2&c=3&d=4&e=5"} {
		first, _ := text.Query(s)
		second, _ := text.Query(s)
		want, _ := modelQuery(s)
		for i := range first[:cap(first)] {
			first[:cap(first)][i] = p("changed", "changed")
		}
		if !slices.Equal(second, want) || !asks(t, s) {
			t.Errorf("Query(%q): %q", s, second)
		}
	}
}

// R4: not even texts are pieces of those that were handed in.
func TestTextsAreNotKept(t *testing.T) {
	long := strings.Repeat("n", 20) + "=" + strings.Repeat("v", 100)
	l, _ := text.Query(long)
	got, _ := text.Get([]api.Pair{p("a", long)}, "a")
	for what, piece := range map[string]string{"Query, a name": l[0].Name, "Query, a value": l[0].Value, "Get": got} {
		begin, at := uintptr(unsafe.Pointer(unsafe.StringData(long))), uintptr(unsafe.Pointer(unsafe.StringData(piece)))
		if len(piece) == 0 || at >= begin && at < begin+uintptr(len(long)) {
			t.Errorf("%s: %d bytes, a piece of what was handed in", what, len(piece))
		}
	}
}

// R4: nil and empty lists are one.
func TestNilAndEmptyAreOne(t *testing.T) {
	for _, l := range [][]api.Pair{nil, {}, make([]api.Pair, 0, 3), make([]api.Pair, 3)[:0]} {
		gets(t, l, "", "", false)
		gets(t, l, "a", "", false)
	}
	if l, e := text.Query(""); len(l) != 0 || e != api.OK {
		t.Errorf("Query: %q %d", l, e)
	}
}

// R5: a call that was refused changes nothing of the next.
func TestRefusedChangesNothing(t *testing.T) {
	for range 3 {
		refusesEach(t, tells, "007", "9007199254740993", "-1", "")
		refusesEach(t, asks, "a=1&a=1", "a=1&b", "a=%4", "b=1&")
		refusesEach(t, parses, "tile/0/x000/005", "tile/0/000.p/256", "tile/64/000", "")
		goesBoth(t, api.Tile{Level: -2, Index: 5, Width: 3})
		takesEach(t, tells, "0", "7", "9007199254740992")
		takesEach(t, asks, "", "a=1", "b=2&a=%41")
		takesEach(t, parses, "tile/0/005", "tile/entries/x001/000.p/9")
		goesBoth(t, api.Tile{Level: 0, Index: 5, Width: 3})
	}
}
