package kv_test

import (
	"strconv"
	"strings"
	"testing"

	"pantile/api"
	"pantile/drive"
	"pantile/kv"
)

// worn is a store that was written over often, what it is then, and its drive.
func worn(t *testing.T, keys int) (*kv.Store, *drive.Drive, model) {
	t.Helper()
	s, d := fresh(t, roomy)
	var m model
	for i := range 60 {
		batch := []api.Write{gone("key" + strconv.Itoa(i%7)), set("over", strings.Repeat("v", i))}
		if i%3 == 0 {
			batch = some(10, i)
		}
		if i == 59 {
			for _, key := range s.Keys("") {
				batch = append(batch, gone(key))
			}
			batch = append(batch, some(keys, 9)...)
		}
		is(t, "Apply", s.Apply(batch), api.OK)
		m = m.with(batch...)
	}
	alike(t, "worn", s, m)
	return s, d, m
}

// needed is how many bytes a new store takes up that has the same.
func needed(t *testing.T, m model) int {
	t.Helper()
	s, d := fresh(t, roomy)
	is(t, "Apply", s.Apply(m.writes()), api.OK)
	return d.Used()
}

// P14.2: behind a Compact it is as it was, takes up what a new store does that has the same, and goes on; another one changes nothing more.
func TestCompact(t *testing.T) {
	for _, keys := range []int{0, 1, 2, 30, 300} {
		s, d, m := worn(t, keys)
		for range 3 {
			is(t, "Compact", s.Compact(), api.OK)
			alike(t, "behind", s, m)
			alike(t, "behind, opened again", opened(t, d, "log"), m)
			if d.Used() != needed(t, m) || !s.Alive() {
				t.Errorf("%d keys: %d bytes, not %d", keys, d.Used(), needed(t, m))
			}
		}
		for i := range 5 {
			is(t, "Apply", s.Apply(some(i, 2)), api.OK)
			m = m.with(some(i, 2)...)
			alike(t, "later", s, m)
			alike(t, "later, opened again", opened(t, d, "log"), m)
		}
		s = opened(t, d, "log")
		is(t, "Compact", s.Compact(), api.OK)
		alike(t, "later", opened(t, d, "log"), m)
	}
}

// P14.2: of a store without keys nothing is left, and no room is needed, be it new, or all of it gone.
func TestCompactOfNoKeys(t *testing.T) {
	for _, first := range [][]api.Write{nil, some(5, 5), {gone("a")}} {
		s, d := fresh(t, roomy)
		is(t, "Apply", s.Apply(first), api.OK)
		for _, w := range first {
			is(t, "Apply", s.Apply([]api.Write{gone(w.Key)}), api.OK)
		}
		is(t, "Quota", d.Quota(0), api.OK)
		for range 2 {
			is(t, "Compact", s.Compact(), api.OK)
			alike(t, "no keys", s, nil)
			alike(t, "no keys, opened again", opened(t, d, "log"), nil)
			if d.Used() != 0 {
				t.Errorf("%d bytes", d.Used())
			}
		}
	}
}

// P14.2: with room to the last byte for what is written anew it is done; with one byte less it is refused: nothing is changed, not even by a deed.
func TestCompactRoom(t *testing.T) {
	for _, keys := range []int{1, 2, 30, 500} {
		s, d, m := worn(t, keys)
		enough := d.Used() + needed(t, m)
		for _, quota := range []int{0, 1, d.Used() - 1, d.Used(), d.Used() + 1, enough - 1} {
			is(t, "Quota", d.Quota(quota), api.OK)
			d.Arm(0)
			was := lies(d)
			for range 2 {
				is(t, "Compact without room", s.Compact(), api.ErrFull)
			}
			d.Arm(-1)
			if lies(d) != was || !s.Alive() {
				t.Errorf("%d keys: what was refused has done something", keys)
			}
			alike(t, "refused", s, m)
			alike(t, "refused, opened again", opened(t, d, "log"), m)
		}
		is(t, "Quota", d.Quota(enough), api.OK)
		is(t, "Compact to the last byte", s.Compact(), api.OK)
		alike(t, "done", s, m)
		alike(t, "done, opened again", opened(t, d, "log"), m)
	}
}

// P14.2: behind a Compact a batch takes as much room as ahead, whatever keys there are.
func TestApplyBehindCompact(t *testing.T) {
	for _, keys := range []int{0, 1, 40} {
		for i, batch := range batches() {
			what := "batch " + strconv.Itoa(i)
			s, d, m := worn(t, keys)
			used := d.Used()
			is(t, what, s.Apply(batch), api.OK)
			takes := d.Used() - used
			is(t, "Compact", s.Compact(), api.OK)
			m = m.with(batch...)
			for range 2 {
				is(t, "Quota", d.Quota(d.Used()+takes-1), api.OK)
				is(t, what+": one byte less", s.Apply(batch), api.ErrFull)
				is(t, "Quota", d.Quota(d.Used()+takes), api.OK)
				is(t, what+": the same room", s.Apply(batch), api.OK)
				alike(t, what, s, m)
				alike(t, what, opened(t, d, "log"), m)
			}
		}
	}
}

// P14.2: of two stores on one drive it lets the other alone.
func TestCompactLeavesOthers(t *testing.T) {
	s, d, m := worn(t, 5)
	other := opened(t, d, "logs")
	is(t, "Apply", other.Apply(some(4, 4)), api.OK)
	is(t, "Apply", other.Apply(some(4, 4)), api.OK)
	used := d.Used()
	is(t, "Compact of the other", other.Compact(), api.OK)
	if d.Used() != used-needed(t, model{}.with(some(4, 4)...)) {
		t.Errorf("%d bytes behind %d", d.Used(), used)
	}
	alike(t, "the one", opened(t, d, "log"), m)
	is(t, "Compact of the one", s.Compact(), api.OK)
	alike(t, "the other", opened(t, d, "logs"), model{}.with(some(4, 4)...))
	alike(t, "the one", opened(t, d, "log"), m)
}
