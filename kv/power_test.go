package kv_test

import (
	"strconv"
	"strings"
	"testing"

	"pantile/api"
	"pantile/drive"
	"pantile/kv"
)

// deed is a call of a store that may be cut: a batch, or a Compact (of none).
type deed struct {
	compact bool
	batch   []api.Write
}

func (x deed) do(s *kv.Store) api.Errno {
	if x.compact {
		return s.Compact()
	}
	return s.Apply(x.batch)
}

// tale is what is asked of a store, one behind the other.
func tale() []deed {
	compact := deed{compact: true}
	apply := func(batch ...api.Write) deed { return deed{batch: batch} }
	return []deed{
		compact,
		apply(set("a", "1"), set("b", "2")),
		apply(set("a", "3"), gone("b"), set("c", "")),
		compact,
		apply(),
		apply(gone("a"), gone("c"), gone("a"), gone("none")),
		compact,
		compact,
		apply(set("a", "1"), set("a", "4"), set("k", strings.Repeat("v", 300))),
		apply(set("a", "5"), set("l", "6")),
		apply(set("a", ""), gone("l"), set("m", "7")),
		compact,
		compact,
		apply(set("n", "8")),
	}
}

// cutOff is a tale that was cut: where, what the store was ahead of the call under way, and what that makes it.
type cutOff struct {
	d         *drive.Drive
	at        int
	was, goes model
}

// tell goes through a tale until the power goes; at is as many as there are, if it does not.
func tell(t *testing.T, d *drive.Drive, what string) cutOff {
	t.Helper()
	c := cutOff{d: d}
	s, e := kv.Open(d, "log")
	if e == api.ErrDown {
		return c
	}
	is(t, what, e, api.OK)
	for i, x := range tale() {
		c.at, c.was, c.goes = i, c.goes, c.goes.with(x.batch...)
		e := x.do(s)
		if e == api.ErrDown {
			dead(t, what, s)
			return c
		}
		is(t, what, e, api.OK)
		if !d.Alive() {
			t.Errorf("%s: OK, though the power went", what)
		}
	}
	c.at = len(tale())
	return c
}

// deedsOf is how many deeds a tale takes.
func deedsOf(t *testing.T) int {
	t.Helper()
	d := drive.New(roomy)
	tell(t, d, "the tale")
	if d.Deeds() < len(tale()) {
		t.Fatalf("only %d deeds", d.Deeds())
	}
	return d.Deeds()
}

// left is which of both a store is, that the power has left.
func (c cutOff) left(t *testing.T, what string, s *kv.Store) model {
	t.Helper()
	as := func(m model) bool {
		for _, p := range m {
			if v, ok := s.Get(p.key); v != p.value || !ok {
				return false
			}
		}
		return s.Len() == len(m)
	}
	m := c.was
	if !as(m) {
		m = c.goes
	}
	alike(t, what, s, m)
	return m
}

// goOn tells the rest of the tale, from the call on that was cut, and tells where it comes to another end.
func (c cutOff) goOn(t *testing.T, what string, s *kv.Store, m model) {
	t.Helper()
	is(t, what, c.d.Quota(roomy), api.OK)
	for _, x := range tale()[c.at:] {
		is(t, what, x.do(s), api.OK)
		m = m.with(x.batch...)
	}
	alike(t, what, s, m)
	alike(t, what, opened(t, c.d, "log"), m)
	is(t, what, s.Compact(), api.OK)
	if c.d.Used() != needed(t, m) {
		t.Errorf("%s: %d bytes, not %d", what, c.d.Used(), needed(t, m))
	}
}

// P14.1, P14.2, P14.4: at whatever deed of a tale the power goes, and whatever is kept: what is opened is as it was ahead of the call under way, or as that makes it, with no byte more than is taken up; opened again it is the same, and goes on.
func TestTaleCutAnywhere(t *testing.T) {
	for at := range deedsOf(t) + 1 {
		for _, keep := range [][]int{nil, {0}, {1}, {2}, {3}, {-1}, {-2}, {-5}, {1, 0}} {
			what := "cut at " + strconv.Itoa(at)
			d := drive.New(roomy)
			d.Arm(at)
			c := tell(t, d, what)
			d.Up(keep)
			is(t, what, d.Quota(d.Used()), api.OK)
			used := d.Used()
			s := opened(t, d, "log")
			if d.Used() > used {
				t.Errorf("%s: %d bytes more", what, d.Used()-used)
			}
			m := c.left(t, what, s)
			for range 2 {
				alike(t, what, opened(t, d, "log"), m)
			}
			c.goOn(t, what, s, m)
		}
	}
}

// P14.4: a call that was OK is never lost, and one that has written nothing yet is not done; in between both may be, and both are.
func TestTaleKept(t *testing.T) {
	batch := []api.Write{set("a", "2"), gone("b"), set("c", "3")}
	was := model{{"a", "1"}, {"b", "1"}}
	for _, c := range []struct {
		after int
		keep  []int
		e     api.Errno
		want  model
	}{
		{0, []int{1}, api.ErrDown, was},
		{1, nil, api.ErrDown, was},
		{1, []int{0}, api.ErrDown, was},
		{1, []int{1}, api.ErrDown, was.with(batch...)},
		{1, []int{-2}, api.ErrDown, was.with(batch...)},
		{2, nil, api.OK, was.with(batch...)},
	} {
		s, d := fresh(t, roomy)
		is(t, "Apply", s.Apply(was.writes()), api.OK)
		d.Arm(c.after)
		is(t, "Apply", s.Apply(batch), c.e)
		if d.Alive() {
			cut(t, d)
		}
		d.Up(c.keep)
		alike(t, "up", opened(t, d, "log"), c.want)
	}
}

// P14.1, P14.4: the power goes again at whatever deed of Open, twice over: it tells ErrDown then, and what is opened in the end is the same.
func TestOpenCutAnywhere(t *testing.T) {
	for at := range deedsOf(t) + 1 {
		for _, keep := range [][]int{{0}, {1}, {2}} {
			for first := range 4 {
				for second := range 4 {
					what := "cut at " + strconv.Itoa(at) + ", then " + strconv.Itoa(first) + ", then " + strconv.Itoa(second)
					d := drive.New(roomy)
					d.Arm(at)
					c := tell(t, d, what)
					d.Up(keep)
					is(t, what, d.Quota(d.Used()), api.OK)
					for _, after := range []int{first, second} {
						d.Arm(after)
						s, e := kv.Open(d, "log")
						if (e == api.OK) != d.Alive() || e != api.OK && (s != nil || e != api.ErrDown) {
							t.Fatalf("%s: %v, and the power is there: %v", what, e, d.Alive())
						}
						d.Up(keep)
					}
					s := opened(t, d, "log")
					m := c.left(t, what, s)
					alike(t, what, opened(t, d, "log"), m)
					c.goOn(t, what, s, m)
				}
			}
		}
	}
}

// P14.1: the power goes at the deeds of the first Open: it tells ErrDown, and none of a store.
func TestFirstOpenCut(t *testing.T) {
	cuts := 0
	for after := range 10 {
		d := drive.New(0)
		d.Arm(after)
		s, e := kv.Open(d, "log")
		if e == api.OK && d.Alive() {
			alike(t, "new", s, nil)
			continue
		}
		cuts++
		if s != nil || e != api.ErrDown || d.Alive() {
			t.Errorf("Open, armed with %d: %v", after, e)
		}
		d.Up(nil)
		alike(t, "new, behind the cut", opened(t, d, "log"), nil)
		if d.Used() != 0 {
			t.Errorf("%d bytes", d.Used())
		}
	}
	if cuts == 0 {
		t.Error("no deed of Open")
	}
}

// P14.4: what the power has left is opened though others have taken up all files that may be made; and once they are gone, Compact has room.
func TestOpenInACrowd(t *testing.T) {
	for after := range 5 {
		s, d := fresh(t, roomy)
		m := model{}.with(some(4, 4)...)
		for range 3 {
			is(t, "Apply", s.Apply(some(4, 4)), api.OK)
		}
		d.Arm(after)
		s.Compact()
		d.Up([]int{1})
		crowd(t, d)
		for range 2 {
			s = opened(t, d, "log")
			alike(t, "in a crowd", s, m)
		}
		if e := s.Compact(); e != api.OK && e != api.ErrFull {
			t.Errorf("Compact in a crowd: %v", e)
		}
		is(t, "Apply", s.Apply([]api.Write{set("a", "1")}), api.OK)
		alike(t, "in a crowd", opened(t, d, "log"), m.with(set("a", "1")))
		is(t, "Remove", d.Remove("crowd0"), api.OK)
		is(t, "Compact", s.Compact(), api.OK)
		alike(t, "behind", opened(t, d, "log"), m.with(set("a", "1")))
	}
}

// P14.4: over many cuts by chance, at Open, Apply and Compact, with room and without, nothing that was OK is lost.
func TestManyCuts(t *testing.T) {
	for script := range 150 {
		r := chance(int64(script))
		d := drive.New(roomy)
		var m, goes model
		for range 12 {
			d.Arm(r.Intn(25))
			s, e := kv.Open(d, "log")
			for e == api.OK {
				alike(t, "by chance", s, m)
				x := anyDeed(r)
				d.Quota(d.Used() + r.Intn(200))
				goes = m.with(x.batch...)
				switch e = x.do(s); e {
				case api.OK:
					m = goes
				case api.ErrFull:
					e = api.OK
				}
			}
			is(t, "by chance", e, api.ErrDown)
			d.Up([]int{r.Intn(9) - 4})
			d.Quota(d.Used())
			c := cutOff{was: m, goes: goes}
			m = c.left(t, "by chance", opened(t, d, "log"))
			goes = m
		}
	}
}
