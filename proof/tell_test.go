package proof_test

import (
	"math"
	"slices"
	"testing"

	"pantile/api"
	"pantile/peaks"
	"pantile/proof"
)

// P10.2: paths and proofs that others reckoned.
func TestKnownProofs(t *testing.T) {
	s := proof.Of(knownLeaves())
	for _, c := range []struct {
		m, n int
		want string
	}{
		{0, 1, ""},
		{0, 8, "96a296d224f285c67bee93c30f8a309157f0daa35dc5b87e410b78630a09cfc7 5f083f0a1a33ca076a95279832580db3e0ef4584bdff1f54c8a360f50de3031e 6b47aaf29ee3c2af9af889bc1fb9254dabd31177f16232dd6aab035ca39bf6e4"},
		{5, 8, "bc1a0643b12e4d2d7c77918f44e0f4f79a838b6cf9ec5b5c283e1f4d88599e6b ca854ea128ed050b41b35ffc1b87b8eb2bde461e9e3b5596ece6b9d5975a0ae0 d37ee418976dd95753c1c73862b9398fa2a2cf9b4ff0fdfe8b30cd95209614b7"},
		{2, 3, "fac54203e7cc696cf0dfcb42c92a1d9dbaf70ad9e621f4bd8d98662f00e3c125"},
		{1, 5, "6e340b9cffb37a989ca544e6bb780a2c78901d3fb33738768511a30617afa01d 5f083f0a1a33ca076a95279832580db3e0ef4584bdff1f54c8a360f50de3031e bc1a0643b12e4d2d7c77918f44e0f4f79a838b6cf9ec5b5c283e1f4d88599e6b"},
	} {
		got, e := proof.Inclusion(s, c.m, c.n)
		tells(t, "Inclusion", got, e, ofDigits(c.want), c.m, c.n)
	}
	for _, c := range []struct {
		m, n int
		want string
	}{
		{1, 1, ""},
		{1, 8, "96a296d224f285c67bee93c30f8a309157f0daa35dc5b87e410b78630a09cfc7 5f083f0a1a33ca076a95279832580db3e0ef4584bdff1f54c8a360f50de3031e 6b47aaf29ee3c2af9af889bc1fb9254dabd31177f16232dd6aab035ca39bf6e4"},
		{6, 8, "0ebc5d3437fbe2db158b9f126a1d118e308181031d0a949f8dededebc558ef6a ca854ea128ed050b41b35ffc1b87b8eb2bde461e9e3b5596ece6b9d5975a0ae0 d37ee418976dd95753c1c73862b9398fa2a2cf9b4ff0fdfe8b30cd95209614b7"},
		{2, 5, "5f083f0a1a33ca076a95279832580db3e0ef4584bdff1f54c8a360f50de3031e bc1a0643b12e4d2d7c77918f44e0f4f79a838b6cf9ec5b5c283e1f4d88599e6b"},
		{3, 7, "0298d122906dcfc10892cb53a73992fc5b9f493ea4c9badb27b791b4127a7fe7 07506a85fd9dd2f120eb694f86011e5bb4662e5c415a62917033d4a9624487e7 fac54203e7cc696cf0dfcb42c92a1d9dbaf70ad9e621f4bd8d98662f00e3c125 837dbb152e9b079010717e84e865da4ebc0fa198a806d59d31bf15accef22d0e"},
		{7, 8, "b08693ec2e721597130641e8211e7eedccb4c26413963eee6c1e2ed16ffb1a5f 46f6ffadd3d06a09ff3c5860d2755c8b9819db7df44251788c7d8e3180de8eb1 0ebc5d3437fbe2db158b9f126a1d118e308181031d0a949f8dededebc558ef6a d37ee418976dd95753c1c73862b9398fa2a2cf9b4ff0fdfe8b30cd95209614b7"},
	} {
		got, e := proof.Consistency(s, c.m, c.n)
		tells(t, "Consistency", got, e, ofDigits(c.want), c.m, c.n)
	}
}

// P10.2: the document's examples.
func TestExamples(t *testing.T) {
	h := leaves(7)
	s, two := proof.Of(h), peaks.NodeHash
	got, e := proof.Inclusion(s, 2, 3)
	tells(t, "Inclusion", got, e, []string{two(h[0], h[1])}, 2, 3)
	got, e = proof.Consistency(s, 2, 3)
	tells(t, "Consistency", got, e, []string{h[2]}, 2, 3)
	got, e = proof.Inclusion(s, 3, 7)
	tells(t, "Inclusion", got, e, []string{h[2], two(h[0], h[1]), two(two(h[4], h[5]), h[6])}, 3, 7)
}

// P10.2: roots, by the tree's definition, of the first of more leaves too.
func TestRootByDefinition(t *testing.T) {
	model := treeOf(leaves(900))
	all := proof.Of(model.hashes)
	for _, n := range sizes() {
		for _, s := range []proof.Source{all, proof.Of(model.hashes[:n])} {
			if got, e := proof.Root(s, n); got != model.root(n) || e != api.OK {
				t.Errorf("Root of %d: %x %v, not %x", n, got, e, model.root(n))
			}
		}
		if model.root(n) != peaks.Root(model.hashes[:n]) {
			t.Errorf("of %d: the model is not as peaks is", n)
		}
	}
}

// P10.2: paths and proofs, by their definition, of the first of more leaves too.
func TestProofsByDefinition(t *testing.T) {
	model := treeOf(leaves(900))
	all := proof.Of(model.hashes)
	for _, n := range sizes() {
		for _, s := range []proof.Source{all, proof.Of(model.hashes[:n])} {
			for _, m := range firsts(n) {
				got, e := proof.Consistency(s, m, n)
				tells(t, "Consistency", got, e, model.proof(m, n), m, n)
				got, e = proof.Inclusion(s, m, n)
				if m == n {
					refuses(t, "Inclusion", got, e, api.ErrRange, m, n)
				} else {
					tells(t, "Inclusion", got, e, model.path(m, n), m, n)
				}
			}
		}
	}
}

// P10.2: a source is asked for the nodes of which ones are made, and for no others: so not for a path's own leaf.
func TestNodesThatAreAsked(t *testing.T) {
	model := treeOf(leaves(900))
	for _, n := range sizes() {
		if n > 0 {
			got, e := proof.Root(askedOnly(t, model, places(span{0, n})), n)
			tells(t, "Root", []string{got}, e, []string{model.root(n)}, n)
		}
		for _, m := range firsts(n) {
			if m < n {
				got, e := proof.Inclusion(askedOnly(t, model, allPlaces(modelPath(m, 0, n))), m, n)
				tells(t, "Inclusion", got, e, model.path(m, n), m, n)
			}
			var at []place
			if m > 0 {
				at = allPlaces(modelProof(m, 0, n, true))
			}
			got, e := proof.Consistency(askedOnly(t, model, at), m, n)
			tells(t, "Consistency", got, e, model.proof(m, n), m, n)
		}
	}
}

// askedOnly is a source of these nodes, of which others, or a node twice, are asked for in vain.
func askedOnly(t *testing.T, model *tree, at []place) proof.Source {
	s := model.only(at)
	t.Cleanup(func() {
		if !slices.Equal(slices.SortedFunc(slices.Values(s.asked), before), slices.SortedFunc(slices.Values(at), before)) {
			t.Errorf("asked for %v, not for %v", s.asked, at)
		}
	})
	return s
}

func before(a, b place) int { return (a.level-b.level)<<30 + a.index - b.index }

// P10.2: ErrNone, and nothing beside it, whichever of the nodes is not told.
func TestNodeThatIsNotTold(t *testing.T) {
	model := treeOf(leaves(140))
	for _, n := range []int{1, 2, 3, 4, 5, 6, 7, 8, 9, 15, 16, 17, 31, 33, 63, 64, 65, 127, 128, 129, 140} {
		for s := range lacking(model, places(span{0, n})) {
			got, e := proof.Root(s, n)
			if e != api.ErrNone || got != "" {
				t.Errorf("Root of %d: %x %v", n, got, e)
			}
		}
		for _, m := range firsts(n) {
			if m < n {
				for s := range lacking(model, allPlaces(modelPath(m, 0, n))) {
					got, e := proof.Inclusion(s, m, n)
					refuses(t, "Inclusion", got, e, api.ErrNone, m, n)
				}
			}
			if m > 0 {
				for s := range lacking(model, allPlaces(modelProof(m, 0, n, true))) {
					got, e := proof.Consistency(s, m, n)
					refuses(t, "Consistency", got, e, api.ErrNone, m, n)
				}
			}
		}
	}
}

// lacking are sources of these nodes without one of them.
func lacking(model *tree, at []place) func(yield func(*some) bool) {
	return func(yield func(*some) bool) {
		for _, p := range at {
			s := model.only(at)
			delete(s.nodes, p)
			if !yield(s) {
				return
			}
		}
	}
}

// P10.2: more leaves than a source has are ErrNone, where one of them is asked for.
func TestMoreLeavesThanThere(t *testing.T) {
	for _, n := range []int{0, 1, 2, 3, 4, 7, 8, 100} {
		s := proof.Of(leaves(n))
		for _, more := range []int{n + 1, n + 2, 2*n + 1, 2*n + 2, api.MaxLeaves} {
			if got, e := proof.Root(s, more); e != api.ErrNone || got != "" {
				t.Errorf("Root of %d of %d: %x %v", more, n, got, e)
			}
			if more > 1 {
				got, e := proof.Inclusion(s, 0, more)
				refuses(t, "Inclusion", got, e, api.ErrNone, 0, more)
				got, e = proof.Consistency(s, 1, more)
				refuses(t, "Consistency", got, e, api.ErrNone, 1, more)
			}
			for _, m := range []int{0, more} {
				got, e := proof.Consistency(s, m, more)
				tells(t, "Consistency", got, e, nil, m, more)
			}
		}
	}
	got, e := proof.Inclusion(proof.Of(nil), 0, 1)
	tells(t, "Inclusion of one leaf, which is not there", got, e, nil, 0, 1)
}

// far are numbers that no n may be.
func far() []int {
	return []int{math.MinInt, -1 << 32, -api.MaxLeaves, -2, -1, api.MaxLeaves + 1, 2 * api.MaxLeaves, 1 << 32, 1 << 40, math.MaxInt}
}

// P10.2, R2: ErrRange, and nothing beside it, ahead of what a source tells.
func TestOutOfRange(t *testing.T) {
	s := &some{}
	for _, n := range far() {
		if got, e := proof.Root(s, n); e != api.ErrRange || got != "" {
			t.Errorf("Root of %d: %x %v", n, got, e)
		}
		for _, m := range append(far(), 0, 1, n-1, n) {
			got, e := proof.Inclusion(s, m, n)
			refuses(t, "Inclusion", got, e, api.ErrRange, m, n)
			got, e = proof.Consistency(s, m, n)
			refuses(t, "Consistency", got, e, api.ErrRange, m, n)
		}
	}
	for _, n := range []int{0, 1, 2, 3, 4, 5, 64, 1000, api.MaxLeaves - 1, api.MaxLeaves} {
		for _, m := range append(far(), n+1, n+2, 2*n+1) {
			got, e := proof.Inclusion(s, m, n)
			refuses(t, "Inclusion", got, e, api.ErrRange, m, n)
			got, e = proof.Consistency(s, m, n)
			refuses(t, "Consistency", got, e, api.ErrRange, m, n)
		}
		got, e := proof.Inclusion(s, n, n)
		refuses(t, "Inclusion", got, e, api.ErrRange, n, n)
	}
	if len(s.asked) > 0 {
		t.Errorf("asked for %v", s.asked)
	}
}

// P10.2: of no leaves the root is that of nothing, and of none of them the proof is nothing; nothing is asked for.
func TestOfNoLeaves(t *testing.T) {
	s := &some{}
	if got, e := proof.Root(s, 0); got != ofDigits("e3b0c44298fc1c149afbf4c8996fb92427ae41e4649b934ca495991b7852b855")[0] || e != api.OK {
		t.Errorf("Root of 0: %x %v", got, e)
	}
	for _, n := range []int{0, 1, 2, 3, 8, 100, api.MaxLeaves} {
		got, e := proof.Consistency(s, 0, n)
		tells(t, "Consistency", got, e, nil, 0, n)
		got, e = proof.Consistency(s, n, n)
		tells(t, "Consistency", got, e, nil, n, n)
	}
	if len(s.asked) > 0 {
		t.Errorf("asked for %v", s.asked)
	}
}

// P10.2: what a source tells is taken as it is, hashes or not.
func TestOtherTexts(t *testing.T) {
	texts := []string{"", "a", "\xff\x00", "a longer one than any hash is, by far, and no hash at all"}
	s, model := proof.Of(texts), treeOf(texts)
	for n := range 5 {
		if got, e := proof.Root(s, n); got != model.root(n) || e != api.OK {
			t.Errorf("Root of %d: %x %v", n, got, e)
		}
		for m := range n {
			got, e := proof.Inclusion(s, m, n)
			tells(t, "Inclusion", got, e, model.path(m, n), m, n)
			got, e = proof.Consistency(s, m, n)
			tells(t, "Consistency", got, e, model.proof(m, n), m, n)
		}
	}
}

// R4, R5: paths and proofs are new, at each call the same, whatever was done to those told ahead, and share no room.
func TestToldIsNew(t *testing.T) {
	model := treeOf(leaves(77))
	s := proof.Of(model.hashes)
	for n := range 78 {
		for m := range n {
			for range 2 {
				got, e := proof.Inclusion(s, m, n)
				tells(t, "Inclusion", got, e, model.path(m, n), m, n)
				clear(got[:cap(got)])
				got, e = proof.Consistency(s, m, n)
				tells(t, "Consistency", got, e, model.proof(m, n), m, n)
				clear(got[:cap(got)])
			}
		}
	}
	askAll(t, s, model)
}
