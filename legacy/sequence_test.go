package legacy_test

import (
	"math"
	"strconv"
	"testing"

	"pantile/api"
)

// P16.3: the first of those that are staged are leaves then, in their order, with a head of them all; the others stay staged.
func TestSequence(t *testing.T) {
	for _, leaves := range []int{0, 1, 2, 7, 20} {
		for _, staged := range []int{1, 2, 63, 64} {
			for _, most := range []int{1, 2, 3, 62, 63, 64} {
				l, d, m := made(t, leaves, staged)
				m = sequence(t, l, m, 1000, most)
				if len(m.leaves) != leaves+min(staged, most) {
					t.Fatal(len(m.leaves))
				}
				holds(t, strconv.Itoa(leaves)+", "+strconv.Itoa(staged)+" staged, "+strconv.Itoa(most), l, d, m)
			}
		}
	}
}

// P16.3: nothing staged: OK, and nothing is done, with no room and no head, too.
func TestSequenceOfNothing(t *testing.T) {
	for _, leaves := range []int{0, 1, 9} {
		l, d, m := made(t, leaves, 0)
		is(t, "Quota", d.Quota(0), api.OK)
		was := lies(d)
		d.Arm(0)
		for _, now := range []int{0, 5, 1000, 1 << 50} {
			for _, most := range []int{1, 2, 64} {
				m = sequence(t, l, m, now, most)
			}
		}
		d.Arm(-1)
		if lies(d) != was {
			t.Error("nothing has done something")
		}
		holds(t, "nothing", l, d, m)
	}
}

// P16.3: times that are none, and other numbers than 1 to 64, are refused, with something staged or nothing, and without room.
func TestSequenceRefuses(t *testing.T) {
	for _, staged := range []int{0, 3} {
		l, d, m := made(t, 3, staged)
		for _, quota := range []int{roomy, 0} {
			is(t, "Quota", d.Quota(quota), api.OK)
			was := lies(d)
			for _, c := range []struct{ now, most int }{
				{-1, 1}, {-1, 64}, {math.MinInt, 5}, {1<<50 + 1, 1}, {math.MaxInt, 64}, {5, 0}, {5, -1}, {5, 65}, {5, math.MinInt}, {5, math.MaxInt}, {-1, 0}, {1<<50 + 1, 65},
			} {
				is(t, strconv.Itoa(c.now)+" "+strconv.Itoa(c.most), l.Sequence(c.now, c.most), api.ErrArg)
			}
			if lies(d) != was || !l.Alive() {
				t.Error("what was refused has done something")
			}
		}
		holds(t, "refused", l, d, m)
	}
}

// P16.3: a head's time is the time now, or that of the last head, if that is later: of heads that were sequenced, put, or left by a log that was opened anew.
func TestSequenceTimes(t *testing.T) {
	l, d := fresh(t, roomy)
	m := model{}
	want := []int{0, 0, 7, 7, 7, 8, 50, 50, 51, 1<<50 - 1, 1<<50 - 1, 1 << 50, 1 << 50}
	for i, now := range []int{0, 0, 7, 6, 0, 8, 50, 49, 51, 1<<50 - 1, 51, 1 << 50, 0} {
		m = add(t, l, m, "cert"+strconv.Itoa(i), i*1000)
		m = sequence(t, l, m, now, 1)
		if h, _ := l.Last(); h.Time != want[i] || h.Size != i+1 {
			t.Errorf("head %d at %d: %v", i, now, h)
		}
		if i%3 == 2 {
			l = opened(t, d)
		}
	}
	holds(t, "times", l, d, m)
	l, d = fresh(t, roomy)
	m = put(t, l, model{}, some(3, "put"), 500)
	m = add(t, l, m, "later", 9)
	m = sequence(t, l, m, 499, 64)
	if h, _ := l.Last(); h.Time != 500 {
		t.Errorf("behind a Put: %v", h)
	}
	holds(t, "behind a Put", l, d, m)
}

// P16.3: sequenced in several calls, one by one, or at once: the same leaves and the same last head, and a head of each call.
func TestSequenceInParts(t *testing.T) {
	for most := 1; most <= 64; most += 9 {
		l, d, m := made(t, 5, 64)
		calls := 0
		for len(m.staged) > 0 {
			m = sequence(t, l, m, 2000, most)
			calls++
			if calls%4 == 1 {
				alike(t, "in parts", l, m)
				l = opened(t, d)
			}
		}
		whole, _, w := made(t, 5, 64)
		w = sequence(t, whole, w, 2000, 64)
		if len(m.leaves) != 69 || m.last() != w.last() || len(m.heads)-len(w.heads) != calls-1 {
			t.Errorf("most %d: %v, not %v", most, m.last(), w.last())
		}
		holds(t, "in parts", l, d, m)
	}
}

// P16.3: a log that grows over many calls, with more staged in between: of each size the tree is the definition's.
func TestSequenceAndAdd(t *testing.T) {
	l, d := fresh(t, roomy)
	m := model{}
	for i := range 150 {
		m = add(t, l, m, "cert"+strconv.Itoa(i), i)
		if i%7 > 3 {
			m = sequence(t, l, m, i, 1+i%5)
			alike(t, "grown", l, m)
		}
	}
	holds(t, "grown", l, d, m)
}

// P16.3: without room nothing changes; with the last byte that it needs it is done.
func TestSequenceRoom(t *testing.T) {
	for _, leaves := range []int{0, 3} {
		for _, most := range []int{1, 2, 64} {
			_, x, _ := made(t, leaves, 3)
			is(t, "Sequence", opened(t, x).Sequence(900, most), api.OK)
			l, d, m := made(t, leaves, 3)
			for _, quota := range []int{0, d.Used(), x.Used() - 1} {
				is(t, "Quota", d.Quota(quota), api.OK)
				was := lies(d)
				d.Arm(0)
				is(t, "no room", l.Sequence(900, most), api.ErrFull)
				d.Arm(-1)
				if lies(d) != was || !l.Alive() {
					t.Error("what was refused has done something")
				}
				holds(t, "no room", l, d, m)
			}
			is(t, "Quota", d.Quota(x.Used()), api.OK)
			holds(t, "to the last byte", l, d, sequence(t, l, m, 900, most))
		}
	}
}
