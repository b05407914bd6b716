package legacy

import (
	"pantile/api"
	"pantile/nodes"
	"pantile/peaks"
	"pantile/proof"
	"pantile/tls"
)

// recall goes through the store's records, and tells whether they are a log's.
func (l *Log) recall() bool {
	var hashes []string
	leaf := func(value string) bool {
		x, e := tls.Parse([]byte(value))
		l.take(x)
		l.size++
		hashes = append(hashes, peaks.LeafHash([]byte(value)))
		return e == api.OK
	}
	staged := 0
	waiting := func(value string) bool {
		x, e := tls.Parse([]byte(value))
		_, twice := l.Seen(x.Cert)
		l.take(x)
		staged++
		return e == api.OK && !twice && staged <= api.MaxStaged
	}
	if !l.each(nodes.Leaf, 0, leaf) || !l.each(nodes.Staged, l.size, waiting) {
		return false
	}
	inner, innerRight := l.treeRight(hashes)
	first, firstRight := l.firstsRight(hashes)
	heads, headsRight := l.headsRight()
	// Whatever else stands in the store, beyond a gap or at a key of no kind, is no log's.
	return innerRight && firstRight && headsRight && l.Len() == l.size+staged+inner+first+heads
}

// treeRight tells how many nodes the leaves' tree has, and whether they are right.
func (l *Log) treeRight(hashes []string) (int, bool) {
	writes, _ := nodes.Grow(0, nil, hashes)
	for _, w := range writes {
		if value, is := l.Get(w.Key); !is || value != w.Value {
			return 0, false
		}
	}
	return len(writes), true
}

// firstsRight tells how many hashes the leaves have, and whether at each stands the first index with it.
func (l *Log) firstsRight(hashes []string) (int, bool) {
	many := 0
	for i, hash := range hashes {
		first, is := l.Find(hash)
		if !is || first > i || hashes[first] != hash {
			return 0, false
		}
		if first == i {
			many++
		}
	}
	return many, true
}

// headsRight tells how many heads there are, and whether they are those of a log that grew, up to all its leaves.
func (l *Log) headsRight() (int, bool) {
	keys := l.Keys(headKeys)
	last := api.Head{}
	for _, key := range keys {
		h, is := l.head(key)
		root, e := proof.Root(l, h.Size)
		if !is || e != api.OK || h.Size <= last.Size || h.Time < last.Time || h.Time > api.MaxTime || h.Root != root {
			return 0, false
		}
		last = h
	}
	return len(keys), last.Size == l.size
}
