package legacy

import (
	"slices"
	"strconv"
	"strings"

	"pantile/api"
	"pantile/b64"
	"pantile/nodes"
	"pantile/peaks"
	"pantile/tls"
)

const headKeys = "h/" // what the keys of heads begin with

// each goes through the records at the keys of a number and of those behind it, as long as there is one and it is right.
func (l *Log) each(key func(int) string, from int, right func(value string) bool) bool {
	for i := from; ; i++ {
		value, is := l.Get(key(i))
		if !is {
			return true
		}
		if !right(value) {
			return false
		}
	}
}

// grown is what leaves behind the others write, but staged leaves and heads, and the root then.
func (l *Log) grown(leaves []api.Leaf) ([]api.Write, string, api.Errno) {
	var out []api.Write
	var hashes []string
	for i, x := range leaves {
		b, e := tls.Leaf(x)
		if e != api.OK {
			return nil, "", e
		}
		hashes = append(hashes, peaks.LeafHash(b))
		out = append(out, api.Write{Key: nodes.Leaf(l.size + i), Value: string(b)})
	}
	// From the last one on: where two leaves have one hash, the first one's index is what stands there.
	for i, hash := range slices.Backward(hashes) {
		if _, is := l.Find(hash); !is {
			out = append(out, api.Write{Key: nodes.Hash(hash), Value: nodes.Number(l.size + i)})
		}
	}
	more, tops := nodes.Grow(l.size, l.Peaks(l.size), hashes)
	return append(out, more...), top(tops), api.OK
}

// top is the tree's one of its peaks.
func top(tops []string) string {
	out := ""
	for _, left := range slices.Backward(tops) {
		if out != "" {
			left = peaks.NodeHash(left, out)
		}
		out = left
	}
	return out
}

// grow writes, as one batch, what leaves and their head make of the log.
func (l *Log) grow(leaves []api.Leaf, writes []api.Write, h api.Head) api.Errno {
	if h.Size > api.MaxLeaves {
		return api.ErrFull
	}
	if e := l.Apply(append(writes, api.Write{Key: nodes.Head(h.Size), Value: headValue(h)})); e != api.OK {
		return e
	}
	for _, x := range leaves {
		l.take(x)
	}
	l.size = h.Size
	return api.OK
}

// take keeps when a leaf's certificate was taken in, if it was not ahead.
func (l *Log) take(x api.Leaf) {
	if _, is := l.taken[x.Cert]; !is {
		l.taken[strings.Clone(x.Cert)] = x.Time
	}
}

func headValue(h api.Head) string { return nodes.Number(h.Time) + " " + b64.Hex([]byte(h.Root)) }

// head is the head at a key, if one is there.
func (l *Log) head(key string) (api.Head, bool) {
	value, _ := l.Get(key)
	time, digits, _ := strings.Cut(value, " ")
	var h api.Head
	h.Size, _ = number(strings.TrimPrefix(key, headKeys))
	h.Time, _ = number(time)
	root, _ := b64.Unhex(digits)
	h.Root = string(root)
	// Of what could not be read nought stands in the head, which makes another value.
	if value != headValue(h) {
		return api.Head{}, false
	}
	return h, true
}

// number is the number of a number key, if it is one.
func number(key string) (int, bool) {
	n, err := strconv.Atoi(key)
	if err != nil || nodes.Number(n) != key {
		return 0, false
	}
	return n, true
}
