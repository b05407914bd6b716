package kv_test

import (
	"strings"
	"testing"

	"pantile/api"
	"pantile/kv"
)

// call is one of a store that may tell ErrDown.
type call struct {
	what string
	ask  func(s *kv.Store) api.Errno
}

// calls are of all kinds: of batches that are right, wrong, none, and too great for any drive.
func calls() []call {
	out := []call{
		{"Compact", (*kv.Store).Compact},
		{"Apply of nothing", func(s *kv.Store) api.Errno { return s.Apply(nil) }},
		{"Apply", func(s *kv.Store) api.Errno { return s.Apply(some(2, 2)) }},
		{"Apply of too much", func(s *kv.Store) api.Errno { return s.Apply(tooMuch()) }},
	}
	for _, w := range wrongWrites() {
		out = append(out, call{"Apply of what may not be", func(s *kv.Store) api.Errno { return s.Apply([]api.Write{set("a", "1"), w}) }})
	}
	return out
}

// dead tells where a store goes on that has told ErrDown, or does anything.
func dead(t *testing.T, what string, s *kv.Store) {
	t.Helper()
	if s.Alive() {
		t.Errorf("%s: alive", what)
	}
	for _, c := range calls() {
		is(t, what+": "+c.what, c.ask(s), api.ErrDown)
	}
}

// P14.2, P14.3: while the power is gone, whoever's deed it went at, a store is not alive; where none of its calls has told so, it goes on once the power is there again.
func TestAlive(t *testing.T) {
	s, d := fresh(t, roomy)
	m := model{}.with(some(3, 3)...)
	is(t, "Apply", s.Apply(some(3, 3)), api.OK)
	for i := range 3 {
		cut(t, d)
		if s.Alive() {
			t.Error("alive without power")
		}
		d.Up([]int{i})
		if !s.Alive() {
			t.Error("not alive, though no call has told ErrDown")
		}
		alike(t, "up", s, m)
		batch := []api.Write{set("a", strings.Repeat("1", i))}
		is(t, "Apply", s.Apply(batch), api.OK)
		m = m.with(batch...)
		is(t, "Compact", s.Compact(), api.OK)
		alike(t, "opened again", opened(t, d, "log"), m)
	}
}

// P14.2: without power ErrDown, ahead of all else; and from then on, while the power is there again, too: nothing is done. One that has told nothing, goes on.
func TestDown(t *testing.T) {
	for i, c := range append(calls(), calls()...) {
		s, d := fresh(t, roomy)
		is(t, "Apply", s.Apply(some(3, 3)), api.OK)
		other, again := opened(t, d, "logs"), opened(t, d, "log")
		cut(t, d)
		is(t, c.what, c.ask(s), api.ErrDown)
		if i < len(calls()) { // else it has told so once alone
			dead(t, "no power", s)
		}
		d.Up([]int{1})
		was := lies(d)
		dead(t, "up again", s)
		if lies(d) != was {
			t.Errorf("%s: a store that has told ErrDown has done something", c.what)
		}
		if !other.Alive() || !again.Alive() {
			t.Errorf("%s: one that has told nothing is not alive", c.what)
		}
		is(t, "another one", other.Apply(some(1, 1)), api.OK)
		is(t, "another one of the same", again.Apply(some(4, 1)), api.OK)
		alike(t, "opened again", opened(t, d, "log"), model{}.with(some(4, 1)...))
		dead(t, "opened again", s)
	}
}

// P14.2: what is refused for another reason does not end a store, though the power would go at a deed.
func TestNotDown(t *testing.T) {
	s, d := fresh(t, 100)
	is(t, "Apply", s.Apply(some(3, 3)), api.OK)
	d.Arm(0)
	is(t, "no room", s.Apply(some(3, 300)), api.ErrFull)
	is(t, "a wrong write", s.Apply(wrongWrites()[:1]), api.ErrArg)
	is(t, "nothing", s.Apply(nil), api.OK)
	alike(t, "as it was", s, model{}.with(some(3, 3)...))
	if !s.Alive() {
		t.Error("not alive")
	}
	is(t, "a deed", s.Apply(some(1, 1)), api.ErrDown)
	dead(t, "the power is gone", s)
	d.Up(nil)
	dead(t, "up again", s)
}

// P14.2: where the power goes at a deed of a call, that has told so: the store does not go on, once the power is there again.
func TestDownAtADeed(t *testing.T) {
	for _, x := range []deed{{compact: true}, {batch: some(4, 1)}} {
		cuts := 0
		for after := range 10 {
			s, d := fresh(t, roomy)
			is(t, "Apply", s.Apply(some(3, 3)), api.OK)
			d.Arm(after)
			e := x.do(s)
			if e == api.OK && d.Alive() {
				continue
			}
			cuts++
			is(t, "a deed", e, api.ErrDown)
			d.Up([]int{1})
			dead(t, "up again", s)
		}
		if cuts < 2 {
			t.Errorf("%d deeds", cuts)
		}
	}
}

// P14.3: what a store tells stays as it was, while the power is gone, and behind ErrDown.
func TestToldWhileDown(t *testing.T) {
	for after := range 2 {
		s, d := fresh(t, roomy)
		is(t, "Apply", s.Apply(some(3, 3)), api.OK)
		d.Arm(after)
		is(t, "Apply", s.Apply([]api.Write{gone("key0"), set("new", "v")}), api.ErrDown)
		alike(t, "no power", s, model{}.with(some(3, 3)...))
		d.Up([]int{1})
		alike(t, "up", s, model{}.with(some(3, 3)...))
	}
}
