package legacy_test

import (
	"math"
	"slices"
	"strconv"
	"strings"
	"testing"

	"pantile/api"
)

// P16.3: leaves that are put are leaves behind the others, at once or one by one, and their head is a head.
func TestPut(t *testing.T) {
	for _, leaves := range []int{0, 1, 2, 3, 6, 8, 31} {
		for _, by := range []int{1, 2, 3, 5, 64, 65, 200} {
			l, d, m := made(t, leaves, 0)
			m = put(t, l, m, some(by, "put"), 5000)
			what := strconv.Itoa(leaves) + " and " + strconv.Itoa(by)
			holds(t, what, l, d, m)
			m = put(t, l, m, some(1, "behind"), 5000)
			m = add(t, l, m, "put0", 7000)
			m = add(t, l, m, "another", 7000)
			m = sequence(t, l, m, 0, 64)
			holds(t, what+", and more", l, d, m)
		}
	}
}

// P16.3: leaves and heads of the least and the greatest times, of the shortest and the longest certificate.
func TestPutEdges(t *testing.T) {
	l, d := fresh(t, roomy)
	m := put(t, l, model{}, []api.Leaf{{Cert: "a"}, {Time: 1 << 50, Cert: "b"}, {Time: 1, Cert: strings.Repeat("\x00", 1000)}}, 0)
	if h, _ := l.Last(); h.Time != 0 {
		t.Errorf("%v", h)
	}
	m = put(t, l, m, []api.Leaf{{Time: 9999999, Cert: "c"}}, 0)
	m = put(t, l, m, []api.Leaf{{Time: 10000000, Cert: "d"}}, 10000000)
	m = put(t, l, m, []api.Leaf{{Time: 3, Cert: "e"}}, 1<<50)
	holds(t, "edges", l, d, put(t, l, m, []api.Leaf{{Time: 2, Cert: "f"}}, 1<<50))
}

// wrong are calls of Put that may not be, for a log of such leaves and heads.
func wrong(m model) (leaves [][]api.Leaf, heads []api.Head) {
	next := some(3, "put")
	right := model{leaves: slices.Concat(m.leaves, next)}.headed(5000)
	refuse := func(l []api.Leaf, h api.Head) { leaves, heads = append(leaves, l), append(heads, h) }
	head := func(change func(h *api.Head)) {
		h := right
		change(&h)
		refuse(next, h)
	}
	refuse(nil, m.last())
	refuse([]api.Leaf{}, m.headed(5000))
	refuse(nil, right)
	for _, size := range []int{0, -1, right.Size - 1, right.Size + 1, len(m.leaves), math.MinInt, math.MaxInt} {
		head(func(h *api.Head) { h.Size = size })
	}
	for _, time := range []int{-1, m.last().Time - 1, 1<<50 + 1, math.MinInt, math.MaxInt} {
		head(func(h *api.Head) { h.Time = time })
	}
	for _, r := range []string{"", m.headed(0).Root, root(hashes(next[:2])), root(nil), right.Root[:31], right.Root + "\x00", strings.Repeat("\x00", 32)} {
		head(func(h *api.Head) { h.Root = r })
	}
	for at := range next {
		for _, x := range []api.Leaf{{}, {Time: 5}, {Time: -1, Cert: "x"}, {Time: 1<<50 + 1, Cert: "x"}, {Time: 5, Cert: strings.Repeat("x", 1001)}, {Time: math.MinInt, Cert: "x"}} {
			l := slices.Clone(next)
			l[at] = x
			refuse(l, model{leaves: slices.Concat(m.leaves, l)}.headed(5000))
		}
	}
	swapped := []api.Leaf{next[1], next[0], next[2]}
	refuse(swapped, right)
	return leaves, heads
}

// P16.3: what may not be put is refused, ahead of what is staged and of the room, and changes nothing.
func TestPutRefuses(t *testing.T) {
	for _, size := range []int{0, 1, 6} {
		for _, staged := range []int{0, 2} {
			l, d, m := made(t, size, staged)
			leaves, heads := wrong(m)
			for _, quota := range []int{roomy, 0} {
				is(t, "Quota", d.Quota(quota), api.OK)
				was := lies(d)
				for i, next := range leaves {
					is(t, strconv.Itoa(size)+" leaves, wrong "+strconv.Itoa(i), l.Put(next, heads[i]), api.ErrArg)
				}
				if lies(d) != was || !l.Alive() {
					t.Error("what was refused has done something")
				}
			}
			holds(t, "refused", l, d, m)
		}
	}
}

// P16.3: with something staged nothing may be put, ahead of the room; once it is sequenced, it may.
func TestPutWithStaged(t *testing.T) {
	for _, staged := range []int{1, 64} {
		l, d, m := made(t, 4, staged)
		next := some(3, "put")
		h := model{leaves: slices.Concat(m.leaves, next)}.headed(5000)
		was := lies(d)
		is(t, "staged", l.Put(next, h), api.ErrExist)
		is(t, "Quota", d.Quota(0), api.OK)
		is(t, "staged, no room", l.Put(next, h), api.ErrExist)
		if lies(d) != was {
			t.Error("what was refused has done something")
		}
		holds(t, "refused", l, d, m)
		is(t, "Quota", d.Quota(roomy), api.OK)
		m = sequence(t, l, m, 1, 64)
		holds(t, "sequenced", l, d, put(t, l, m, next, 5000))
	}
}

// P16.3: certificates that were taken in already may be put: they were taken in when they were; so were those that are put twice, at the first one's time.
func TestPutAgain(t *testing.T) {
	l, d, m := made(t, 5, 0)
	m = put(t, l, m, []api.Leaf{{Time: 77, Cert: "leaf2"}, {Time: 30, Cert: "twice"}, {Time: 20, Cert: "twice"}, m.leaves[1], {Time: 30, Cert: "twice"}}, 500)
	holds(t, "again", l, d, m)
	for _, x := range []api.Leaf{m.leaves[2], {Time: 30, Cert: "twice"}} {
		if time, ok := l.Seen(x.Cert); time != x.Time || !ok {
			t.Errorf("%q at %d", x.Cert, time)
		}
	}
	if i, _ := l.Find(leafHash(m.leaves[1])); i != 1 {
		t.Errorf("a leaf that was there ahead is found at %d", i)
	}
	if i, _ := l.Find(leafHash(api.Leaf{Time: 30, Cert: "twice"})); i != 6 {
		t.Errorf("the first of two that are alike is found at %d", i)
	}
	for range 2 {
		m = put(t, l, m, m.leaves, 500)
		holds(t, "all of them again", l, d, m)
	}
}

// P16.3: without room nothing changes; with the last byte that it needs it is done.
func TestPutRoom(t *testing.T) {
	for _, leaves := range []int{0, 3} {
		for _, by := range []int{1, 5, 100} {
			other, x, w := made(t, leaves, 0)
			put(t, other, w, some(by, "put"), 5000)
			l, d, m := made(t, leaves, 0)
			next := some(by, "put")
			h := model{leaves: slices.Concat(m.leaves, next)}.headed(5000)
			for _, quota := range []int{0, d.Used(), x.Used() - 1} {
				is(t, "Quota", d.Quota(quota), api.OK)
				was := lies(d)
				d.Arm(0)
				is(t, "no room", l.Put(next, h), api.ErrFull)
				d.Arm(-1)
				if lies(d) != was || !l.Alive() {
					t.Error("what was refused has done something")
				}
				holds(t, "no room", l, d, m)
			}
			is(t, "Quota", d.Quota(x.Used()), api.OK)
			holds(t, "to the last byte", l, d, put(t, l, m, next, 5000))
		}
	}
}
