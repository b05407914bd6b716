package legacy_test

import (
	"math"
	"strconv"
	"strings"
	"testing"

	"pantile/api"
)

// P16.2: leaves are staged in their order, of times and certificates of all lengths, up to the greatest.
func TestAdd(t *testing.T) {
	for _, leaves := range []int{0, 1, 6} {
		l, d, m := made(t, leaves, 0)
		for _, x := range []api.Leaf{
			{Time: 5, Cert: "a"}, {Time: 0, Cert: "b"}, {Time: 1 << 50, Cert: "c"}, {Time: 1<<50 - 1, Cert: "\x00"}, {Time: 5, Cert: "\xff\x00\x80"},
			{Time: 1, Cert: strings.Repeat("z", 1000)}, {Time: 1, Cert: strings.Repeat("z", 999)}, {Time: 9999999, Cert: "A"}, {Time: 10000000, Cert: "a "},
		} {
			m = add(t, l, m, x.Cert, x.Time)
			holds(t, "added", l, d, m)
		}
	}
}

// P16.2: a leaf that may not be is refused, and changes nothing, with room or without, and with 64 staged.
func TestAddRefuses(t *testing.T) {
	for _, staged := range []int{0, 3, 64} {
		l, d, m := made(t, 3, staged)
		for _, quota := range []int{roomy, 0} {
			is(t, "Quota", d.Quota(quota), api.OK)
			d.Arm(0)
			was := lies(d)
			for _, x := range []api.Leaf{
				{Time: 5}, {Time: 5, Cert: strings.Repeat("z", 1001)}, {Time: 5, Cert: strings.Repeat("z", 1<<17)}, {Time: -1, Cert: "new"}, {Time: math.MinInt, Cert: "new"},
				{Time: 1<<50 + 1, Cert: "new"}, {Time: math.MaxInt, Cert: "new"}, {Time: -1}, {Time: -1, Cert: "leaf0"}, {Time: 1<<50 + 1, Cert: "leaf1"}, {Time: -5, Cert: "staged0"},
			} {
				if got, e := l.Add(x.Cert, x.Time); got != (api.Leaf{}) || e != api.ErrArg {
					t.Errorf("Add of %.50q at %d: %v %v", x.Cert, x.Time, got, e)
				}
			}
			if lies(d) != was || !l.Alive() {
				t.Error("what was refused has done something")
			}
			d.Arm(-1)
		}
		holds(t, "refused", l, d, m)
	}
}

// P16.2: a certificate that was taken in already is answered by its leaf of that time, be it staged or a leaf, added or put, with no room, no deed and 64 staged, and opened anew.
func TestAddAgain(t *testing.T) {
	for _, staged := range []int{1, 40, 64} {
		l, d, m := made(t, 5, staged)
		is(t, "Quota", d.Quota(0), api.OK)
		was := lies(d)
		for range 2 {
			d.Arm(0)
			for i, x := range append(m.leaves, m.staged...) {
				for _, now := range []int{x.Time, 0, 1 << 50, i} {
					if got, e := l.Add(x.Cert, now); got != x || e != api.OK {
						t.Errorf("Add of %q at %d: %v %v, not %v", x.Cert, now, got, e, x)
					}
				}
			}
			d.Arm(-1)
			if lies(d) != was {
				t.Error("what was taken in already has done something")
			}
			holds(t, "added again", l, d, m)
			l = opened(t, d)
		}
	}
}

// P16.2: a certificate goes on to be known when it is sequenced, behind others, and over the log's being opened anew.
func TestAddAgainBehindSequence(t *testing.T) {
	l, d := fresh(t, roomy)
	m := model{}
	for i := range 30 {
		m = add(t, l, m, "cert"+strconv.Itoa(i%9), 10+i)
		m = add(t, l, m, "cert"+strconv.Itoa(i*i%9), 1000+i)
		if i%4 == 1 {
			m = sequence(t, l, m, i, 1+i%3)
		}
		if i%5 == 2 {
			l = opened(t, d)
		}
	}
	holds(t, "again and again", l, d, m)
	if n := len(m.leaves) + len(m.staged); n != 9 {
		t.Errorf("%d leaves", n)
	}
}

// P16.2: of two that were put with one certificate, the first one's time is the one at which it was taken in.
func TestAddBehindTwice(t *testing.T) {
	l, d := fresh(t, roomy)
	m := put(t, l, model{}, []api.Leaf{{Time: 7, Cert: "a"}, {Time: 3, Cert: "a"}, {Time: 9, Cert: "a"}, {Time: 7, Cert: "a"}}, 20)
	for range 2 {
		if x, e := l.Add("a", 50); x != (api.Leaf{Time: 7, Cert: "a"}) || e != api.OK {
			t.Errorf("%v %v", x, e)
		}
		holds(t, "twice", l, d, m)
		l = opened(t, d)
	}
}

// P16.2: at most 64 are staged, however many leaves there are; once some are leaves there is place again.
func TestAddUpTo64(t *testing.T) {
	for _, leaves := range []int{0, 1, 7} {
		l, d, m := made(t, leaves, 62)
		m = add(t, l, m, "63rd", 1)
		m = add(t, l, m, "64th", 2)
		if len(m.staged) != 64 {
			t.Fatal(len(m.staged))
		}
		was := lies(d)
		for range 3 {
			m = add(t, l, m, "65th", 3)
		}
		if x, e := opened(t, d).Add("65th", 4); x != (api.Leaf{}) || e != api.ErrFull {
			t.Errorf("%v %v", x, e)
		}
		if lies(d) != was {
			t.Error("what was refused has done something")
		}
		holds(t, "64 staged", l, d, m)
		m = sequence(t, l, m, 5, 1)
		m = add(t, l, m, "65th", 6)
		m = add(t, l, m, "66th", 7)
		holds(t, "64 again", l, d, m)
		m = sequence(t, l, m, 8, 64)
		m = add(t, l, m, "66th", 9)
		holds(t, "none but one", l, d, m)
	}
}

// P16.2: without room nothing changes; with the last byte that it needs it is done.
func TestAddRoom(t *testing.T) {
	for _, leaves := range []int{0, 4} {
		for _, staged := range []int{0, 2} {
			_, x, _ := made(t, leaves, staged)
			if _, e := opened(t, x).Add("new", 9); e != api.OK {
				t.Fatal(e)
			}
			l, d, m := made(t, leaves, staged)
			for _, quota := range []int{0, d.Used(), d.Used() + 1, x.Used() - 1} {
				is(t, "Quota", d.Quota(quota), api.OK)
				d.Arm(0)
				was := lies(d)
				if got, e := l.Add("new", 9); got != (api.Leaf{}) || e != api.ErrFull {
					t.Errorf("no room: %v %v", got, e)
				}
				d.Arm(-1)
				if lies(d) != was || !l.Alive() {
					t.Error("what was refused has done something")
				}
				holds(t, "no room", l, d, m)
			}
			is(t, "Quota", d.Quota(x.Used()), api.OK)
			holds(t, "to the last byte", l, d, add(t, l, m, "new", 9))
		}
	}
}

// The room that the document tells of: a log's first leaf of one byte on an empty drive for 100000 bytes.
func TestFirstLeafsRoom(t *testing.T) {
	l, d := fresh(t, 100000)
	if d.Used() != 0 {
		t.Errorf("a new log takes up %d bytes", d.Used())
	}
	m := add(t, l, model{}, "a", 5)
	holds(t, "the first leaf", l, d, sequence(t, l, m, 6, 64))
}

// The chapter's example: a at 5, a at 9, and a sequence.
func TestExample(t *testing.T) {
	l, d := fresh(t, roomy)
	for _, now := range []int{5, 9} {
		if x, e := l.Add("a", now); x != (api.Leaf{Time: 5, Cert: "a"}) || e != api.OK {
			t.Errorf("%v %v", x, e)
		}
	}
	is(t, "Sequence", l.Sequence(10, 64), api.OK)
	if l.Size() != 1 || opened(t, d).Size() != 1 {
		t.Errorf("size %d", l.Size())
	}
}
