package kv_test

import (
	"slices"
	"strings"
	"testing"

	"pantile/api"
)

// P14.3: the keys that begin with a prefix, rising byte by byte; of a whole key, and of one byte more.
func TestKeys(t *testing.T) {
	keys := []string{"b", "a", "aa", "a\x00", "a\xff", "ab", "\xff", "\xff\xff", "\x00", "A", "é", "a/1", "a/10", "a/2", strings.Repeat("k", 199), strings.Repeat("k", 200)}
	var batch []api.Write
	for _, key := range keys {
		batch = append(batch, set(key, key+"'s"))
	}
	s, d := fresh(t, roomy)
	is(t, "Apply", s.Apply(batch), api.OK)
	for _, x := range []interface{ Keys(string) []string }{s, opened(t, d, "log")} {
		for _, c := range []struct {
			prefix string
			want   []string
		}{
			{"", []string{"\x00", "A", "a", "a\x00", "a/1", "a/10", "a/2", "aa", "ab", "a\xff", "b", strings.Repeat("k", 199), strings.Repeat("k", 200), "é", "\xff", "\xff\xff"}},
			{"a", []string{"a", "a\x00", "a/1", "a/10", "a/2", "aa", "ab", "a\xff"}},
			{"a/", []string{"a/1", "a/10", "a/2"}},
			{"a/1", []string{"a/1", "a/10"}},
			{"a/10", []string{"a/10"}},
			{"a/100", nil},
			{"a\x00", []string{"a\x00"}},
			{"\xc3", []string{"é"}},
			{"\xff", []string{"\xff", "\xff\xff"}},
			{"\xff\xff\xff", nil},
			{"k", []string{strings.Repeat("k", 199), strings.Repeat("k", 200)}},
			{strings.Repeat("k", 200), []string{strings.Repeat("k", 200)}},
			{strings.Repeat("k", 201), nil},
			{strings.Repeat("a", 100000), nil},
			{"B", nil},
		} {
			if got := x.Keys(c.prefix); !slices.Equal(got, c.want) {
				t.Errorf("Keys(%.50q): %.300q, not %.300q", c.prefix, got, c.want)
			}
		}
	}
}

// P14.3: what stands at a key, of no bytes, too; and nothing where nothing does, be it a key or none.
func TestGet(t *testing.T) {
	s, d := fresh(t, roomy)
	for _, key := range []string{"", "a", "b", strings.Repeat("k", 201)} {
		hasNone(t, s, key)
	}
	is(t, "Apply", s.Apply([]api.Write{set("a", "1"), set("b", ""), set("c", "3")}), api.OK)
	is(t, "Apply", s.Apply([]api.Write{set("a", "2"), gone("c")}), api.OK)
	for range 3 {
		has(t, s, "a", "2")
		has(t, s, "b", "")
		for _, key := range []string{"c", "", "ab", "A", "a\x00", "\x00", "none", strings.Repeat("k", 201), strings.Repeat("a", 100000)} {
			hasNone(t, s, key)
		}
		s = opened(t, d, "log")
		is(t, "Compact", s.Compact(), api.OK)
	}
}

// P14.3: how many keys there are: not how many writes were.
func TestLen(t *testing.T) {
	s, d := fresh(t, roomy)
	for _, c := range []struct {
		w    api.Write
		want int
	}{{set("a", "1"), 1}, {set("a", "2"), 1}, {set("b", ""), 2}, {gone("none"), 2}, {gone("a"), 1}, {gone("a"), 1}, {set("a", ""), 2}, {gone("b"), 1}, {gone("a"), 0}} {
		is(t, "Apply", s.Apply([]api.Write{c.w}), api.OK)
		if s.Len() != c.want || opened(t, d, "log").Len() != c.want {
			t.Errorf("behind %v: %d keys, not %d", c.w, s.Len(), c.want)
		}
	}
}
