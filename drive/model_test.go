package drive_test

import (
	"bytes"
	"cmp"
	"math/rand"
	"slices"
	"strings"
	"testing"

	"pantile/api"
	"pantile/drive"
)

const (
	mostQuota = 1 << 24
	mostFiles = 65536
	least     = -1 << 63
	most      = 1<<63 - 1
)

// disk is what a drive and its model both are.
type disk interface {
	Create(name string) api.Errno
	Append(name string, data []byte) api.Errno
	Sync(name string) api.Errno
	Rename(from, to string) api.Errno
	Remove(name string) api.Errno
	Read(name string) ([]byte, api.Errno)
	List(prefix string) []string
	Used() int
	Deeds() int
	Arm(after int)
	Up(keep []int)
	Alive() bool
	Quota(n int) api.Errno
}

// modelFile is a file with its name, its safe bytes, and each piece by itself.
type modelFile struct {
	name, safe string
	pieces     []string
}

func (f modelFile) all() string { return f.safe + strings.Join(f.pieces, "") }

// model is a drive by the chapter's words: files in a list, each of which is written anew, nothing counted ahead; ahead are the deeds that are done until the power goes, one by one.
type model struct {
	files        []modelFile
	quota, deeds int
	armed, down  bool
	ahead        []struct{}
}

func (m *model) at(name string) int {
	return slices.IndexFunc(m.files, func(f modelFile) bool { return f.name == name })
}

// goes tells whether the power goes at a deed; else it counts it.
func (m *model) goes() bool {
	if m.armed && len(m.ahead) == 0 {
		m.down = true
		return true
	}
	if m.armed {
		m.ahead = m.ahead[1:]
	}
	m.deeds++
	return false
}

// first is the first error of those that apply, by the chapter's order; then ErrDown, if the power goes.
func (m *model) first(errs ...api.Errno) api.Errno {
	for _, e := range errs {
		if e != api.OK {
			return e
		}
	}
	if m.goes() {
		return api.ErrDown
	}
	return api.OK
}

func when(so bool, e api.Errno) api.Errno {
	if so {
		return e
	}
	return api.OK
}

// modelName tells whether bytes are a name, byte by byte.
func modelName(s string) bool {
	for _, c := range []byte(s) {
		small, digit, other := 'a' <= c && c <= 'z', '0' <= c && c <= '9', c == '.' || c == '/' || c == '-' || c == '_'
		if !small && !digit && !other {
			return false
		}
	}
	return len(s) != 0 && len(s) < 61
}

func (m *model) without(names ...string) (out []modelFile) {
	for _, f := range m.files {
		if !slices.Contains(names, f.name) {
			out = append(out, f)
		}
	}
	return out
}

func (m *model) Create(name string) api.Errno {
	e := m.first(when(m.down, api.ErrDown), when(!modelName(name), api.ErrArg), when(m.at(name) >= 0, api.ErrExist), when(len(m.files) == mostFiles, api.ErrFull))
	if e == api.OK {
		m.files = append(m.files, modelFile{name: name})
	}
	return e
}

func (m *model) Append(name string, data []byte) api.Errno {
	e := m.first(when(m.down, api.ErrDown), when(m.at(name) < 0, api.ErrNone), when(m.Used()+len(data) > m.quota, api.ErrFull))
	if e == api.OK {
		f := &m.files[m.at(name)]
		f.pieces = append(slices.Clone(f.pieces), string(data))
	}
	return e
}

func (m *model) Sync(name string) api.Errno {
	e := m.first(when(m.down, api.ErrDown), when(m.at(name) < 0, api.ErrNone))
	if e == api.OK {
		m.files[m.at(name)] = modelFile{name: name, safe: m.files[m.at(name)].all()}
	}
	return e
}

func (m *model) Rename(from, to string) api.Errno {
	e := m.first(when(m.down, api.ErrDown), when(m.at(from) < 0, api.ErrNone), when(!modelName(to), api.ErrArg))
	if e == api.OK {
		f := m.files[m.at(from)]
		f.name = to
		m.files = append(m.without(from, to), f)
	}
	return e
}

func (m *model) Remove(name string) api.Errno {
	e := m.first(when(m.down, api.ErrDown), when(m.at(name) < 0, api.ErrNone))
	if e == api.OK {
		m.files = m.without(name)
	}
	return e
}

func (m *model) Read(name string) ([]byte, api.Errno) {
	if m.down {
		return nil, api.ErrDown
	}
	if m.at(name) < 0 {
		return nil, api.ErrNone
	}
	return []byte(m.files[m.at(name)].all()), api.OK
}

func (m *model) List(prefix string) (out []string) {
	for _, f := range m.files {
		if !m.down && len(f.name) >= len(prefix) && f.name[:len(prefix)] == prefix {
			out = append(out, f.name)
		}
	}
	slices.Sort(out)
	return out
}

func (m *model) Used() (n int) {
	for _, f := range m.files {
		n += len(f.all())
	}
	return n
}

func (m *model) Deeds() int  { return m.deeds }
func (m *model) Alive() bool { return !m.down }

func (m *model) Arm(after int) {
	m.armed, m.ahead = after >= 0, make([]struct{}, max(after, 0))
}

func (m *model) Up(keep []int) {
	m.armed = false
	if !m.down {
		return
	}
	m.down = false
	slices.SortFunc(m.files, func(a, b modelFile) int { return cmp.Compare(a.name, b.name) })
	i := 0
	for at, f := range m.files {
		if len(f.pieces) > 0 {
			m.files[at] = modelFile{name: f.name, safe: f.safe + strings.Join(f.pieces[:modelKept(keep, i, len(f.pieces))], "")}
			i++
		}
	}
}

// modelKept is how many pieces the i-th file keeps: the numbers are gone through round and round, and what one says is counted round, too.
func modelKept(keep []int, i, pieces int) int {
	if len(keep) == 0 {
		return 0
	}
	for i >= len(keep) {
		i -= len(keep)
	}
	says := uint64(keep[i])
	if keep[i] < 0 {
		says = ^says
	}
	return int(says - says/uint64(pieces+1)*uint64(pieces+1))
}

func (m *model) Quota(n int) api.Errno {
	if m.down {
		return api.ErrDown
	}
	if n < 0 || n > mostQuota {
		return api.ErrArg
	}
	m.quota = n
	return api.OK
}

// alike tells where a drive is not as its model is.
func alike(t *testing.T, what string, d, m disk) {
	t.Helper()
	if d.Used() != m.Used() || d.Deeds() != m.Deeds() || d.Alive() != m.Alive() {
		t.Fatalf("%s: used %d, deeds %d, alive %v, not %d %d %v", what, d.Used(), d.Deeds(), d.Alive(), m.Used(), m.Deeds(), m.Alive())
	}
	if got, want := d.List(""), m.List(""); !slices.Equal(got, want) {
		t.Fatalf("%s: files %q, not %q", what, got, want)
	}
	for _, name := range append(m.List(""), "none", "", "A") {
		got, e := d.Read(name)
		want, f := m.Read(name)
		if !bytes.Equal(got, want) || e != f {
			t.Fatalf("%s: %q has %q %v, not %q %v", what, name, got, e, want, f)
		}
	}
}

// made is a drive of a quota.
func made(t *testing.T, quota int) *drive.Drive {
	t.Helper()
	d := drive.New(quota)
	if d == nil {
		t.Fatalf("New(%d): none", quota)
	}
	return d
}

// is tells where an error is not the one that was wanted.
func is(t *testing.T, what string, got, want api.Errno) {
	t.Helper()
	if got != want {
		t.Errorf("%s: %v, not %v", what, got, want)
	}
}

// has tells where a file has not what was wanted.
func has(t *testing.T, d disk, name, want string) {
	t.Helper()
	if b, e := d.Read(name); string(b) != want || e != api.OK {
		t.Errorf("%q has %.100q %v, not %.100q", name, b, e, want)
	}
}

// hasNone tells where there is not that error alone.
func hasNone(t *testing.T, d disk, name string, want api.Errno) {
	t.Helper()
	if b, e := d.Read(name); len(b) != 0 || e != want {
		t.Errorf("%q has %.100q %v, not %v", name, b, e, want)
	}
}

// lists tells where there are not just these files.
func lists(t *testing.T, d disk, prefix string, want ...string) {
	t.Helper()
	if got := d.List(prefix); !slices.Equal(got, want) {
		t.Errorf("List(%q): %.200q, not %.200q", prefix, got, want)
	}
}

// counts tells where there are not so many bytes and deeds.
func counts(t *testing.T, d disk, used, deeds int) {
	t.Helper()
	if d.Used() != used || d.Deeds() != deeds {
		t.Errorf("used %d, deeds %d, not %d %d", d.Used(), d.Deeds(), used, deeds)
	}
}

// put makes a file of safe bytes and pieces.
func put(t *testing.T, d disk, name, safe string, pieces ...string) {
	t.Helper()
	is(t, "Create "+name, d.Create(name), api.OK)
	if safe != "" {
		is(t, "Append "+name, d.Append(name, []byte(safe)), api.OK)
		is(t, "Sync "+name, d.Sync(name), api.OK)
	}
	for _, p := range pieces {
		is(t, "Append "+name, d.Append(name, []byte(p)), api.OK)
	}
}

// cut lets the power go at a deed that changes nothing: a file is renamed to itself.
func cut(t *testing.T, d disk, name string) {
	t.Helper()
	d.Arm(0)
	is(t, "at the cut", d.Rename(name, name), api.ErrDown)
	if d.Alive() {
		t.Error("the power is there behind the cut")
	}
}

// numbered is a list of so many numbers.
func numbered(n int, number func(i int) int) []int {
	out := make([]int, n)
	for i := range out {
		out[i] = number(i)
	}
	return out
}

// chance is always the same.
func chance(of int64) *rand.Rand { return rand.New(rand.NewSource(of)) }
