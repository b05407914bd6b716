package kv_test

import (
	"hash/fnv"
	"math/rand"
	"slices"
	"strconv"
	"strings"
	"testing"

	"pantile/api"
	"pantile/drive"
	"pantile/kv"
)

const (
	roomy    = 1 << 24
	allFiles = 65536
	mostOf   = 1 << 20 // bytes of a value
)

// great is far more than a value may be, made once: it is asked for often.
var great = strings.Repeat("v", 3*mostOf)

// tooMuch is a batch for which no drive has room.
func tooMuch() (out []api.Write) {
	for i := range 17 {
		out = append(out, set("key"+strconv.Itoa(i), great[:mostOf]))
	}
	return out
}

// pair is a key and what stands there.
type pair struct{ key, value string }

// model is a store by the chapter's words: a list of pairs, made anew by each write.
type model []pair

// with is it behind a batch.
func (m model) with(batch ...api.Write) model {
	for _, w := range batch {
		m = slices.DeleteFunc(slices.Clone(m), func(p pair) bool { return p.key == w.Key })
		if !w.Gone {
			m = append(m, pair{w.Key, w.Value})
		}
	}
	return m
}

func (m model) keys(prefix string) (out []string) {
	for _, p := range m {
		if len(p.key) >= len(prefix) && p.key[:len(prefix)] == prefix {
			out = append(out, p.key)
		}
	}
	slices.Sort(out)
	return out
}

// writes is a batch that makes it of nothing.
func (m model) writes() (out []api.Write) {
	for _, p := range m {
		out = append(out, set(p.key, p.value))
	}
	return out
}

func set(key, value string) api.Write { return api.Write{Key: key, Value: value} }
func gone(key string) api.Write       { return api.Write{Key: key, Gone: true} }

// some is a batch of so many keys, with values of so many bytes.
func some(many, size int) (out []api.Write) {
	for i := range many {
		out = append(out, set("key"+strconv.Itoa(i), strings.Repeat(string(rune('a'+i%26)), size)))
	}
	return out
}

// alike tells where a store is not as its model is.
func alike(t *testing.T, what string, s *kv.Store, m model) {
	t.Helper()
	if s.Len() != len(m) {
		t.Fatalf("%s: %d keys, not %d", what, s.Len(), len(m))
	}
	for _, prefix := range append(m.keys(""), "", "k", "none", "\x00") {
		if got, want := s.Keys(prefix), m.keys(prefix); !slices.Equal(got, want) {
			t.Fatalf("%s: Keys(%q): %.300q, not %.300q", what, prefix, got, want)
		}
	}
	for _, p := range m {
		if v, ok := s.Get(p.key); v != p.value || !ok {
			t.Fatalf("%s: at %q stands %.100q %v, not %.100q", what, p.key, v, ok, p.value)
		}
		hasNone(t, s, p.key+"none")
	}
	hasNone(t, s, "")
}

// is tells where an error is not the one that was wanted.
func is(t *testing.T, what string, got, want api.Errno) {
	t.Helper()
	if got != want {
		t.Errorf("%s: %v, not %v", what, got, want)
	}
}

// has tells where something else stands at a key.
func has(t *testing.T, s *kv.Store, key, want string) {
	t.Helper()
	if v, ok := s.Get(key); v != want || !ok {
		t.Errorf("at %.100q stands %.100q %v, not %.100q", key, v, ok, want)
	}
}

// hasNone tells where something stands at a key.
func hasNone(t *testing.T, s *kv.Store, key string) {
	t.Helper()
	if v, ok := s.Get(key); v != "" || ok {
		t.Errorf("at %.100q stands %.100q %v, not nothing", key, v, ok)
	}
}

// opened is a drive's store.
func opened(t *testing.T, d *drive.Drive, name string) *kv.Store {
	t.Helper()
	s, e := kv.Open(d, name)
	if e != api.OK || s == nil {
		t.Fatalf("Open(%q): %v", name, e)
	}
	return s
}

// fresh is a new store by itself, and its drive.
func fresh(t *testing.T, quota int) (*kv.Store, *drive.Drive) {
	t.Helper()
	d := drive.New(quota)
	return opened(t, d, "log"), d
}

// refused tells where Open is not refused by that error, or has done anything.
func refused(t *testing.T, what string, d *drive.Drive, name string, want api.Errno) {
	t.Helper()
	was := lies(d)
	if s, e := kv.Open(d, name); s != nil || e != want {
		t.Errorf("%s: Open(%q): %v, not %v", what, name, e, want)
	}
	if lies(d) != was {
		t.Errorf("%s: Open(%q) has changed what lies there", what, name)
	}
}

// lies is all that can be seen of a drive.
func lies(d *drive.Drive) string {
	var out []string
	for _, name := range d.List("") {
		b, e := d.Read(name)
		out = append(out, name, string(b), e.Error())
	}
	return strings.Join(append(out, strconv.Itoa(d.Used()), strconv.Itoa(d.Deeds()), strconv.FormatBool(d.Alive())), "\n")
}

// lay lets a file be of these bytes.
func lay(t *testing.T, d *drive.Drive, name, data string) {
	t.Helper()
	d.Remove(name)
	is(t, "Create "+name, d.Create(name), api.OK)
	is(t, "Append "+name, d.Append(name, []byte(data)), api.OK)
	is(t, "Sync "+name, d.Sync(name), api.OK)
}

// crowd makes files until there is no room for one more.
func crowd(t *testing.T, d *drive.Drive) {
	t.Helper()
	for i := range allFiles {
		if e := d.Create("crowd" + strconv.Itoa(i)); e == api.ErrFull {
			return
		}
	}
	if e := d.Create("crowd"); e != api.ErrFull {
		t.Fatalf("no crowd: %v", e)
	}
}

// cut lets the power go at a deed of others.
func cut(t *testing.T, d *drive.Drive) {
	t.Helper()
	d.Create("other")
	d.Arm(0)
	is(t, "at the cut", d.Sync("other"), api.ErrDown)
}

// framed is a frame of these bytes, reckoned by Go's own library.
func framed(body string) string {
	h := fnv.New32a()
	h.Write([]byte(body))
	n := len(body)
	return string([]byte{byte(n >> 24), byte(n >> 16), byte(n >> 8), byte(n)}) + string(h.Sum(nil)) + body
}

// written is a write's bytes, with whatever numbers ahead.
func written(key, value int, bytes string) string {
	return string([]byte{byte(key), byte(value >> 16), byte(value >> 8), byte(value)}) + bytes
}

// chance is always the same.
func chance(of int64) *rand.Rand { return rand.New(rand.NewSource(of)) }
