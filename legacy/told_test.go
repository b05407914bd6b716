package legacy_test

import (
	"strconv"
	"testing"

	"pantile/api"
	"pantile/proof"
)

// P16.4: logs of no leaves, of one, and of many tell what they have, and of all else that there is none.
func TestTold(t *testing.T) {
	for _, leaves := range []int{0, 1, 2, 3, 4, 5, 15, 16, 17, 100} {
		for _, staged := range []int{0, 1, 64} {
			l, d, m := made(t, leaves, staged)
			holds(t, strconv.Itoa(leaves)+", "+strconv.Itoa(staged)+" staged", l, d, m)
		}
	}
}

// P16.4, with P10.2 and P10.4: as a source a log tells roots, paths and proofs of all its sizes that are checked against the definition's roots.
func TestProofs(t *testing.T) {
	l, _, m := made(t, 37, 5)
	all := hashes(m.leaves)
	for n := 0; n <= len(all); n++ {
		r, e := proof.Root(l, n)
		if r != root(all[:n]) || e != api.OK {
			t.Fatalf("the root of %d: %x %v", n, r, e)
		}
		for i := range n {
			path, e := proof.Inclusion(l, i, n)
			is(t, "Inclusion", e, api.OK)
			is(t, "a path", proof.CheckInclusion(all[i], i, n, path, r), api.OK)
			path, e = proof.Consistency(l, i, n)
			is(t, "Consistency", e, api.OK)
			is(t, "a proof", proof.CheckConsistency(i, n, path, root(all[:i]), r), api.OK)
		}
	}
	if _, e := proof.Root(l, len(all)+1); e != api.ErrNone {
		t.Errorf("the root of staged leaves, too: %v", e)
	}
}

// P16.4: each head is of the first leaves, as many as its size, and a later one's tree goes on from an earlier one's.
func TestHeadsGoOn(t *testing.T) {
	l, _, m := made(t, 40, 64)
	for len(m.staged) > 0 {
		m = sequence(t, l, m, 300, 7)
	}
	last := api.Head{}
	for _, h := range l.Heads() {
		if h.Size <= last.Size || h.Time < last.Time || h.Root != root(hashes(m.leaves[:h.Size])) {
			t.Errorf("%v behind %v", h, last)
		}
		path, e := proof.Consistency(l, last.Size, h.Size)
		is(t, "Consistency", e, api.OK)
		is(t, "a proof", proof.CheckConsistency(last.Size, h.Size, path, last.Root, h.Root), api.OK)
		last = h
	}
	if h, ok := l.Last(); h != last || !ok || last.Size != l.Size() {
		t.Errorf("%v, not %v", h, last)
	}
}

// P16.4: a leaf that is staged is at no index, has no node and no hash yet, but its certificate was seen.
func TestStagedIsNoLeaf(t *testing.T) {
	l, _, m := made(t, 2, 1)
	x := m.staged[0]
	if got, e := l.Leaf(2); got != (api.Leaf{}) || e != api.ErrRange {
		t.Errorf("%v %v", got, e)
	}
	if h, ok := l.Node(0, 2); h != "" || ok {
		t.Errorf("%x %v", h, ok)
	}
	hasNot(t, "staged", l, leafHash(x))
	if time, ok := l.Seen(x.Cert); time != x.Time || !ok {
		t.Errorf("%d %v", time, ok)
	}
}

// P16.4: Alive is the store's: not while the power is gone, nor behind a call that has told so.
func TestAlive(t *testing.T) {
	l, d, m := made(t, 3, 2)
	d.Arm(5)
	if !l.Alive() {
		t.Error("not alive, though the power is there")
	}
	cut(t, d)
	if l.Alive() {
		t.Error("alive without power")
	}
	alike(t, "no power", l, m)
	d.Up(nil)
	if !l.Alive() {
		t.Error("not alive, though no call has told that the power is gone")
	}
	m = add(t, l, m, "new", 1)
	holds(t, "power again", l, d, m)
	d.Arm(0)
	if x, e := l.Add("newer", 2); x != (api.Leaf{}) || e != api.ErrDown || l.Alive() {
		t.Errorf("%v %v, alive %v", x, e, l.Alive())
	}
	d.Up(nil)
	if l.Alive() {
		t.Error("alive behind a call that has told that the power is gone")
	}
	if !opened(t, d).Alive() {
		t.Error("opened anew, not alive")
	}
}

// The tree's and the store's calls are the log's, too: its peaks, and a Compact, which changes nothing and gives back the room of what was staged.
func TestPromoted(t *testing.T) {
	l, d, m := made(t, 6, 30)
	m = sequence(t, l, m, 1, 20)
	if tops := l.Peaks(26); len(tops) != 3 || tops[0] != root(hashes(m.leaves[:16])) {
		t.Errorf("%x", tops)
	}
	used := d.Used()
	is(t, "Compact", l.Compact(), api.OK)
	if d.Used() >= used {
		t.Errorf("%d bytes behind a Compact, %d ahead", d.Used(), used)
	}
	holds(t, "behind a Compact", l, d, m)
	holds(t, "and more", l, d, add(t, l, m, "new", 3))
}
