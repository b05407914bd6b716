package legacy_test

import (
	"crypto/sha256"
	"encoding/binary"
	"encoding/hex"
	"fmt"
	"math"
	"slices"
	"strconv"
	"strings"
	"testing"

	"pantile/api"
	"pantile/drive"
	"pantile/kv"
	"pantile/legacy"
)

const roomy = 1 << 24

func sum(parts ...string) string { return string(sumOf(strings.Join(parts, ""))) }

func sumOf(s string) []byte {
	h := sha256.Sum256([]byte(s))
	return h[:]
}

// leafBytes are a leaf's, as RFC 6962 writes them.
func leafBytes(x api.Leaf) string {
	b := binary.BigEndian.AppendUint64([]byte{0, 0}, uint64(x.Time))
	n := len(x.Cert)
	b = append(b, 0, 0, byte(n>>16), byte(n>>8), byte(n))
	return string(b) + x.Cert + "\x00\x00"
}

func leafHash(x api.Leaf) string { return sum("\x00", leafBytes(x)) }

func hexOf(s string) string { return hex.EncodeToString([]byte(s)) }

func hashes(leaves []api.Leaf) []string {
	out := make([]string, len(leaves))
	for i, x := range leaves {
		out[i] = leafHash(x)
	}
	return out
}

// root is the tree's one of hashes, by its definition.
func root(hashes []string) string {
	switch len(hashes) {
	case 0:
		return sum("")
	case 1:
		return hashes[0]
	}
	k := 1
	for 2*k < len(hashes) {
		k *= 2
	}
	return sum("\x01", root(hashes[:k]), root(hashes[k:]))
}

// model is a log by the chapter's words, made anew by each call.
type model struct {
	leaves, staged []api.Leaf
	heads          []api.Head
}

// seen is when a certificate was taken in first: what is put goes ahead of what is staged, as nothing is put while something is.
func (m model) seen(cert string) (int, bool) {
	for _, x := range slices.Concat(m.leaves, m.staged) {
		if x.Cert == cert {
			return x.Time, true
		}
	}
	return 0, false
}

func (m model) last() api.Head {
	if len(m.heads) == 0 {
		return api.Head{}
	}
	return m.heads[len(m.heads)-1]
}

// headed is the head of all leaves at a time.
func (m model) headed(time int) api.Head {
	return api.Head{Size: len(m.leaves), Time: time, Root: root(hashes(m.leaves))}
}

func (m model) add(cert string, now int) (model, api.Leaf, api.Errno) {
	if now < 0 || now > 1<<50 || len(cert) < 1 || len(cert) > 1000 {
		return m, api.Leaf{}, api.ErrArg
	}
	if time, is := m.seen(cert); is {
		return m, api.Leaf{Time: time, Cert: cert}, api.OK
	}
	if len(m.staged) == 64 {
		return m, api.Leaf{}, api.ErrFull
	}
	x := api.Leaf{Time: now, Cert: cert}
	m.staged = append(slices.Clone(m.staged), x)
	return m, x, api.OK
}

func (m model) sequence(now, most int) (model, api.Errno) {
	if now < 0 || now > 1<<50 || most < 1 || most > 64 {
		return m, api.ErrArg
	}
	if len(m.staged) == 0 {
		return m, api.OK
	}
	many := min(most, len(m.staged))
	m.leaves = slices.Concat(m.leaves, m.staged[:many])
	m.staged = m.staged[many:]
	m.heads = append(slices.Clone(m.heads), m.headed(max(now, m.last().Time)))
	return m, api.OK
}

func (m model) put(leaves []api.Leaf, h api.Head) (model, api.Errno) {
	next := m
	next.leaves = slices.Concat(m.leaves, leaves)
	for _, x := range leaves {
		if x.Time < 0 || x.Time > 1<<50 || len(x.Cert) < 1 || len(x.Cert) > 1000 {
			return m, api.ErrArg
		}
	}
	if len(leaves) == 0 || h.Time < m.last().Time || h.Time < 0 || h.Time > 1<<50 || h != next.headed(h.Time) {
		return m, api.ErrArg
	}
	if len(m.staged) > 0 {
		return m, api.ErrExist
	}
	next.heads = append(slices.Clone(m.heads), h)
	return next, api.OK
}

// nodes are those that are whole, by the keys of chapter 15.
func (m model) nodes() map[[2]int]string {
	out := map[[2]int]string{}
	all := hashes(m.leaves)
	for level := 0; 1<<level <= len(all); level++ {
		for i := 0; (i+1)<<level <= len(all); i++ {
			if level == 0 {
				out[[2]int{0, i}] = all[i]
				continue
			}
			out[[2]int{level, i}] = sum("\x01", out[[2]int{level - 1, 2 * i}], out[[2]int{level - 1, 2*i + 1}])
		}
	}
	return out
}

// records are what must stand in the store, by the chapter's words.
func (m model) records() map[string]string {
	out := map[string]string{}
	for at, h := range m.nodes() {
		out[fmt.Sprintf("n/%02d/%07d", at[0], at[1])] = h
	}
	for i, x := range m.leaves {
		out[fmt.Sprintf("l/%07d", i)] = leafBytes(x)
		key := "i/" + hexOf(leafHash(x))
		if _, is := out[key]; !is {
			out[key] = fmt.Sprintf("%07d", i)
		}
	}
	for _, h := range m.heads {
		out[fmt.Sprintf("h/%07d", h.Size)] = fmt.Sprintf("%07d %x", h.Time, h.Root)
	}
	for i, x := range m.staged {
		out[fmt.Sprintf("p/%07d", len(m.leaves)+i)] = leafBytes(x)
	}
	return out
}

// is tells where an error is not the one that was wanted.
func is(t *testing.T, what string, got, want api.Errno) {
	t.Helper()
	if got != want {
		t.Errorf("%s: %v, not %v", what, got, want)
	}
}

// alike tells where a log's calls tell something else than its model does.
func alike(t *testing.T, what string, l *legacy.Log, m model) {
	t.Helper()
	if l.Size() != len(m.leaves) || !slices.Equal(l.Staged(), m.staged) || !slices.Equal(l.Heads(), m.heads) {
		t.Fatalf("%s: %d leaves, staged %.300v, heads %.300v; not %d, %.300v, %.300v", what, l.Size(), l.Staged(), l.Heads(), len(m.leaves), m.staged, m.heads)
	}
	if h, ok := l.Last(); h != m.last() || ok != (len(m.heads) > 0) {
		t.Fatalf("%s: the last head %v %v, not %v", what, h, ok, m.last())
	}
	leavesAlike(t, what, l, m)
	nodesAlike(t, what, l, m)
}

func leavesAlike(t *testing.T, what string, l *legacy.Log, m model) {
	t.Helper()
	first := map[string]int{}
	for i, x := range m.leaves {
		if got, e := l.Leaf(i); got != x || e != api.OK {
			t.Fatalf("%s: leaf %d: %.100v %v, not %.100v", what, i, got, e, x)
		}
		h := leafHash(x)
		if _, is := first[h]; !is {
			first[h] = i
		}
		if at, ok := l.Find(h); at != first[h] || !ok {
			t.Fatalf("%s: the hash of the leaf %d at %d %v, not %d", what, i, at, ok, first[h])
		}
	}
	for _, i := range []int{-1, math.MinInt, len(m.leaves), len(m.leaves) + 1, math.MaxInt} {
		if x, e := l.Leaf(i); x != (api.Leaf{}) || e != api.ErrRange {
			t.Fatalf("%s: leaf %d of %d: %v %v", what, i, len(m.leaves), x, e)
		}
	}
	for _, x := range append(slices.Concat(m.leaves, m.staged), api.Leaf{Time: 1, Cert: "never"}, api.Leaf{}) {
		wantTime, want := m.seen(x.Cert)
		if time, ok := l.Seen(x.Cert); time != wantTime || ok != want {
			t.Fatalf("%s: %.50q was seen at %d %v, not %d %v", what, x.Cert, time, ok, wantTime, want)
		}
		if _, is := first[leafHash(x)]; !is {
			hasNot(t, what, l, leafHash(x))
		}
	}
	for _, h := range []string{"", "a", sum(""), sum("\x00"), strings.Repeat("h", 5000)} {
		hasNot(t, what, l, h)
	}
}

func hasNot(t *testing.T, what string, l *legacy.Log, hash string) {
	t.Helper()
	if i, ok := l.Find(hash); i != 0 || ok {
		t.Fatalf("%s: %.100q at %d %v, but no leaf has it", what, hash, i, ok)
	}
}

func nodesAlike(t *testing.T, what string, l *legacy.Log, m model) {
	t.Helper()
	all := m.nodes()
	tells := func(level, index int) {
		t.Helper()
		want, is := all[[2]int{level, index}]
		if got, ok := l.Node(level, index); got != want || ok != is {
			t.Fatalf("%s: node %d %d: %x %v, not %x %v", what, level, index, got, ok, want, is)
		}
	}
	for at := range all {
		tells(at[0], at[1])
	}
	for level := range 42 {
		tells(level, len(m.leaves)>>level)
		tells(level, len(m.leaves)>>level+1)
		tells(level, -1)
	}
	for _, n := range []int{-1, math.MinInt, math.MaxInt, 1 << 20, 100} {
		tells(n, 0)
		tells(n, n)
		tells(0, max(n, len(m.leaves)))
	}
}

// stands tells where the store's records are not the model's.
func stands(t *testing.T, what string, d *drive.Drive, m model) {
	t.Helper()
	s, e := kv.Open(d, "legacy")
	is(t, what+": kv.Open", e, api.OK)
	want := m.records()
	for key, value := range want {
		if got, ok := s.Get(key); got != value || !ok {
			t.Fatalf("%s: at %s stands %.100q %v, not %.100q", what, key, got, ok, value)
		}
	}
	for _, key := range s.Keys("") {
		if _, is := want[key]; !is {
			t.Fatalf("%s: something stands at %.100q", what, key)
		}
	}
}

// holds tells where a log, its records, or it opened anew, are not as the model is.
func holds(t *testing.T, what string, l *legacy.Log, d *drive.Drive, m model) {
	t.Helper()
	alike(t, what, l, m)
	stands(t, what, d, m)
	alike(t, what+", opened anew", opened(t, d), m)
}

func opened(t *testing.T, d *drive.Drive) *legacy.Log {
	t.Helper()
	l, e := legacy.Open(d)
	if e != api.OK || l == nil {
		t.Fatalf("Open: %v", e)
	}
	return l
}

func fresh(t *testing.T, quota int) (*legacy.Log, *drive.Drive) {
	t.Helper()
	d := drive.New(quota)
	return opened(t, d), d
}

// some are so many leaves whose certificates begin with a text, and whose times go up and down.
func some(many int, begin string) (out []api.Leaf) {
	for i := range many {
		out = append(out, api.Leaf{Time: 100 + i*7%31, Cert: begin + strconv.Itoa(i)})
	}
	return out
}

// made is a log with leaves, in heads of some sizes, and leaves that are staged.
func made(t *testing.T, leaves, staged int) (*legacy.Log, *drive.Drive, model) {
	t.Helper()
	l, d := fresh(t, roomy)
	return l, d, fill(t, l, model{}, leaves, staged)
}

func fill(t *testing.T, l *legacy.Log, m model, leaves, staged int) model {
	t.Helper()
	for from, by := 0, 1; from < leaves; from, by = from+by, 2*by {
		by = min(by, leaves-from)
		next := some(leaves, "leaf")[from : from+by]
		m = put(t, l, m, next, 100+by)
	}
	for _, x := range some(staged, "staged") {
		m = add(t, l, m, x.Cert, x.Time)
	}
	return m
}

// put, add and sequence do a call to a log and to its model, and tell where they answer otherwise.
func put(t *testing.T, l *legacy.Log, m model, leaves []api.Leaf, time int) model {
	t.Helper()
	h := model{leaves: slices.Concat(m.leaves, leaves)}.headed(max(time, m.last().Time))
	next, want := m.put(leaves, h)
	is(t, "Put", l.Put(leaves, h), want)
	return next
}

func add(t *testing.T, l *legacy.Log, m model, cert string, now int) model {
	t.Helper()
	next, want, wantE := m.add(cert, now)
	if x, e := l.Add(cert, now); x != want || e != wantE {
		t.Errorf("Add of %.50q at %d: %.100v %v, not %.100v %v", cert, now, x, e, want, wantE)
	}
	return next
}

func sequence(t *testing.T, l *legacy.Log, m model, now, most int) model {
	t.Helper()
	next, want := m.sequence(now, most)
	is(t, fmt.Sprintf("Sequence at %d of at most %d", now, most), l.Sequence(now, most), want)
	return next
}

// lies is all that a drive has, and how many deeds were done.
func lies(d *drive.Drive) string {
	out := strconv.Itoa(d.Deeds())
	for _, name := range d.List("") {
		data, e := d.Read(name)
		out += fmt.Sprintf("|%s %x %v", name, sha256.Sum256(data), e)
	}
	return out
}

// cut lets the power go at something that is not the log's.
func cut(t *testing.T, d *drive.Drive) {
	t.Helper()
	d.Arm(0)
	is(t, "cut", d.Create("other/file"), api.ErrDown)
}
