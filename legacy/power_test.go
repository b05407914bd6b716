package legacy_test

import (
	"fmt"
	"slices"
	"testing"

	"pantile/api"
	"pantile/drive"
	"pantile/legacy"
)

// call is one of a log's, and of its model's.
type call struct {
	what string
	ask  func(l *legacy.Log) api.Errno
	goes func(m model) (model, api.Errno)
}

func addCall(cert string, now int) call {
	return call{"Add of " + cert, func(l *legacy.Log) api.Errno {
		_, e := l.Add(cert, now)
		return e
	}, func(m model) (model, api.Errno) {
		next, _, e := m.add(cert, now)
		return next, e
	}}
}

func sequenceCall(now, most int) call {
	return call{"Sequence", func(l *legacy.Log) api.Errno { return l.Sequence(now, most) }, func(m model) (model, api.Errno) { return m.sequence(now, most) }}
}

// putCall puts leaves behind those that there must be then.
func putCall(ahead model, leaves []api.Leaf, time int) call {
	h := model{leaves: slices.Concat(ahead.leaves, leaves)}.headed(time)
	return call{"Put", func(l *legacy.Log) api.Errno { return l.Put(leaves, h) }, func(m model) (model, api.Errno) { return m.put(leaves, h) }}
}

// tale is what is asked of a log, one call behind the other; each of them does something.
func tale() (out []call) {
	m := model{}
	tell := func(c call) {
		out = append(out, c)
		m, _ = c.goes(m)
	}
	tell(addCall("a", 5))
	tell(sequenceCall(6, 64))
	tell(addCall("b", 9))
	tell(addCall("c", 4))
	tell(addCall("d", 4))
	tell(sequenceCall(3, 2))
	tell(addCall("e", 8))
	tell(sequenceCall(10, 2))
	tell(putCall(m, some(9, "put"), 10))
	tell(putCall(m, []api.Leaf{{Time: 1, Cert: "a"}, {Time: 2, Cert: "f"}, {Time: 2, Cert: "f"}}, 30))
	tell(addCall("g", 31))
	tell(addCall("h", 31))
	tell(sequenceCall(0, 1))
	return out
}

// cutOff is a tale in which the power went at a deed: how many of its calls were OK, what they have made of the log, and what it is with the one under way, too.
type cutOff struct {
	d         *drive.Drive
	done      int
	was, goes model
}

// tell goes through the tale until the power goes at a deed, and tells whether it does.
func tell(t *testing.T, deed int) (cutOff, bool) {
	t.Helper()
	c := cutOff{d: drive.New(roomy)}
	c.d.Arm(deed)
	l, e := legacy.Open(c.d)
	if e == api.ErrDown {
		return c, true
	}
	for _, x := range tale() {
		c.goes, _ = x.goes(c.was)
		e := x.ask(l)
		if e == api.ErrDown {
			alike(t, "no power", l, c.was)
			return c, true
		}
		is(t, x.what, e, api.OK)
		c.was = c.goes
		c.done++
	}
	return c, false
}

// left is which of both a log is, that the power has left, and how many calls were done.
func (c cutOff) left(t *testing.T, what string, l *legacy.Log) (model, int) {
	t.Helper()
	if l.Size() == len(c.was.leaves) && len(l.Staged()) == len(c.was.staged) {
		alike(t, what, l, c.was)
		return c.was, c.done
	}
	alike(t, what, l, c.goes)
	return c.goes, c.done + 1
}

// P16.5: the power goes at each deed of the tale, and any pieces are kept: the log is as all calls that were OK have left it, or with the one under way, too; opened again it is the same, and it goes on from there.
func TestPower(t *testing.T) {
	underWay := 0
	for deed := 0; ; deed++ {
		for _, keep := range [][]int{nil, {0}, {1}, {-1}, {5}, {0, 1}, {1, 1}} {
			c, gone := tell(t, deed)
			if !gone {
				if deed < len(tale()) || underWay < len(tale()) {
					t.Errorf("%d deeds, and the call under way was done %d times", deed, underWay)
				}
				return
			}
			c.d.Up(keep)
			what := fmt.Sprintf("deed %d, kept %v", deed, keep)
			m, done := c.left(t, what, opened(t, c.d))
			underWay += done - c.done
			l := opened(t, c.d)
			holds(t, what+", opened again", l, c.d, m)
			for _, x := range tale()[done:] {
				is(t, what+": "+x.what, x.ask(l), api.OK)
				m, _ = x.goes(m)
			}
			holds(t, what+", told to its end", l, c.d, m)
		}
	}
}

// P16.5: the power goes again at each deed of Open, any pieces kept: the same is left as without.
func TestPowerAtOpen(t *testing.T) {
	for deed := 0; ; deed++ {
		for at := range 5 {
			for _, keep := range [][]int{nil, {1}, {-1, -1}} {
				c, gone := tell(t, deed)
				if !gone {
					return
				}
				c.d.Up(keep)
				c.d.Arm(at)
				if l, e := legacy.Open(c.d); e == api.OK {
					c.left(t, "opened", l)
				} else {
					is(t, "the power goes", e, api.ErrDown)
				}
				c.d.Up(keep)
				what := fmt.Sprintf("deed %d, then %d, kept %v", deed, at, keep)
				m, _ := c.left(t, what, opened(t, c.d))
				holds(t, what, opened(t, c.d), c.d, m)
			}
		}
	}
}

// asked are all calls that may be refused, with what is right and what is wrong.
func asked(m model) []call {
	out := []call{addCall("new", 5), addCall("", 5), addCall("leaf0", 5), addCall("staged0", -1), sequenceCall(5, 64), sequenceCall(-1, 64), sequenceCall(5, 65)}
	out = append(out, putCall(m, some(2, "put"), 5000), putCall(m, nil, 5000), putCall(model{}, some(9, "put"), 0))
	return out
}

// P16.2, P16.3: behind the power's going every call tells ErrDown, ahead of all else, and with room or not; what the log tells stays as it was.
func TestBehindThePowersGoing(t *testing.T) {
	for _, staged := range []int{0, 2, 64} {
		for deed := range 2 {
			l, d, m := made(t, 5, staged)
			d.Arm(deed)
			under := putCall(m, some(2, "put"), 5000)
			if staged > 0 {
				under = sequenceCall(5, 1)
			}
			is(t, "the power goes", under.ask(l), api.ErrDown)
			for _, x := range asked(m) {
				is(t, "no power: "+x.what, x.ask(l), api.ErrDown)
			}
			alike(t, "no power", l, m)
			d.Up([]int{1})
			was := lies(d)
			for _, x := range asked(m) {
				is(t, "up again: "+x.what, x.ask(l), api.ErrDown)
			}
			alike(t, "up again", l, m)
			if lies(d) != was || l.Alive() {
				t.Error("a log that has told that the power is gone has done something")
			}
		}
	}
}

// P16.2, P16.3: without power each call tells ErrDown, ahead of all else, be it the first one that is asked.
func TestNoPower(t *testing.T) {
	for _, leaves := range []int{0, 5} {
		for _, staged := range []int{0, 1, 64} {
			_, _, m := made(t, leaves, staged)
			for _, x := range asked(m) {
				l, d, _ := made(t, leaves, staged)
				is(t, "Quota", d.Quota(0), api.OK)
				cut(t, d)
				is(t, x.what, x.ask(l), api.ErrDown)
				alike(t, "no power", l, m)
			}
		}
	}
}
