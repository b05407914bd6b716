package kv_test

import (
	"strings"
	"testing"

	"pantile/api"
	"pantile/drive"
	"pantile/kv"
)

func wrongNames() []string {
	return []string{"", "A", "Z", "0", "9", ".", "-", "_", "/", "`", "{", " ", "\n", "\x00", "\xff", "a.", ".a", "a.b", "a/b", "a-b", "a_b", "a0", "aB", "log ", "é", "a\x00", strings.Repeat("a", 21), strings.Repeat("z", 60), strings.Repeat("q", 1000)}
}

// P14.1: without a drive, or with a name that is none, ErrArg, whatever else is wrong.
func TestOpenRefusesArguments(t *testing.T) {
	for _, name := range append(wrongNames(), "a", "log", strings.Repeat("a", 20)) {
		if s, e := kv.Open(nil, name); s != nil || e != api.ErrArg {
			t.Errorf("Open(nil, %.50q): %v", name, e)
		}
	}
	d := drive.New(1000)
	lay(t, d, "a.b", "nothing of a store's")
	for _, name := range wrongNames() {
		refused(t, "a name that is none", d, name, api.ErrArg)
	}
	cut(t, d)
	for _, name := range wrongNames() {
		refused(t, "a name that is none, and no power", d, name, api.ErrArg)
	}
}

// P14.1: names of 1 to 20 bytes of a to z are names.
func TestOpenNames(t *testing.T) {
	names := []string{"abcdefghijklmnopqrst", "ghijklmnopqrstuvwxyz", strings.Repeat("z", 20), strings.Repeat("a", 19), "aa"}
	for c := 'a'; c <= 'z'; c++ {
		names = append(names, string(c))
	}
	d := drive.New(roomy)
	for _, name := range names {
		is(t, name, opened(t, d, name).Apply([]api.Write{set("name", name)}), api.OK)
	}
	for _, name := range names {
		has(t, opened(t, d, name), "name", name)
	}
}

// P14.1: on a drive without such files it is without keys, and takes up no bytes, be there none for it at all.
func TestOpenNew(t *testing.T) {
	for _, quota := range []int{0, 1, 1000, roomy} {
		d := drive.New(quota)
		for range 3 {
			s := opened(t, d, "log")
			alike(t, "new", s, nil)
			if !s.Alive() || d.Used() != 0 {
				t.Errorf("a new store: alive %v, %d bytes", s.Alive(), d.Used())
			}
		}
	}
}

// P14.1: the files of a store are those that begin with its name and a point, and no others, whatever these are.
func TestOpenLeavesOthers(t *testing.T) {
	d := drive.New(roomy)
	for _, name := range []string{"log", "log-", "log_x", "log/x", "logs", "lo.g", "a.log", "lo", "l", "lo.log", "logs.log", "log0", "xlog.log"} {
		lay(t, d, name, "others' "+name)
	}
	is(t, "Apply", opened(t, d, "log").Apply(some(3, 5)), api.OK)
	is(t, "Compact", opened(t, d, "log").Compact(), api.OK)
	alike(t, "again", opened(t, d, "log"), model{}.with(some(3, 5)...))
	for _, name := range d.List("") {
		if b, _ := d.Read(name); !strings.HasPrefix(name, "log.") && string(b) != "others' "+name {
			t.Errorf("%q has %q", name, b)
		}
	}
}

// P14.1: stores of different names lie each by itself, one name the other's beginning.
func TestStoresApart(t *testing.T) {
	d := drive.New(roomy)
	names := []string{"log", "logs", "lo", "l", "logsx", "logloglogloglogloglo"}
	m := map[string]model{}
	for i := range 30 {
		name := names[i*7%len(names)]
		s := opened(t, d, name)
		alike(t, name, s, m[name])
		batch := []api.Write{set("who", name), set(strings.Repeat("k", i%4+1), name[:i%2]), gone(strings.Repeat("k", i%3+1))}
		is(t, name, s.Apply(batch), api.OK)
		m[name] = m[name].with(batch...)
		if i%5 == 0 {
			is(t, name, s.Compact(), api.OK)
		}
	}
	for _, name := range names {
		alike(t, name, opened(t, d, name), m[name])
	}
	lay(t, d, "logs.log", "torn")
	refused(t, "torn", d, "logs", api.ErrTorn)
	alike(t, "the name that begins it", opened(t, d, "log"), m["log"])
	alike(t, "the name that goes on", opened(t, d, "logsx"), m["logsx"])
}

// P14.1: while the power is gone ErrDown, be what lies there a store's, or nothing, or torn.
func TestOpenDown(t *testing.T) {
	d := drive.New(roomy)
	is(t, "Apply", opened(t, d, "log").Apply(some(3, 5)), api.OK)
	lay(t, d, "torn.log", "torn")
	cut(t, d)
	for _, name := range []string{"log", "torn", "new"} {
		refused(t, "no power", d, name, api.ErrDown)
	}
	d.Up(nil)
	alike(t, "up", opened(t, d, "log"), model{}.with(some(3, 5)...))
	refused(t, "up", d, "torn", api.ErrTorn)
}

// P14.1: where no file may be made any more ErrFull of a new store, and nothing is done; one that is there is opened.
func TestOpenWithoutRoomForFiles(t *testing.T) {
	s, d := fresh(t, roomy)
	is(t, "Apply", s.Apply(some(3, 5)), api.OK)
	crowd(t, d)
	for range 2 {
		refused(t, "a crowd of files", d, "new", api.ErrFull)
	}
	alike(t, "one that is there", opened(t, d, "log"), model{}.with(some(3, 5)...))
	is(t, "Compact of one that is there", opened(t, d, "log").Compact(), api.OK)
	d.Arm(0)
	refused(t, "a crowd of files, and the power would go", d, "new", api.ErrFull)
	d.Arm(-1)
	is(t, "Remove", d.Remove("crowd0"), api.OK)
	one := opened(t, d, "new") // there is room for one file alone
	is(t, "Apply", one.Apply(some(2, 1)), api.OK)
	is(t, "Compact without room for a file", one.Compact(), api.ErrFull)
	alike(t, "as it was", opened(t, d, "new"), model{}.with(some(2, 1)...))
	is(t, "Remove", d.Remove("crowd1"), api.OK)
	is(t, "Compact with room for a file", one.Compact(), api.OK)
	alike(t, "as it was", opened(t, d, "new"), model{}.with(some(2, 1)...))
}

// P14.1: Open changes nothing of a store that is there: neither its bytes, nor by any deed.
func TestOpenDoesNothing(t *testing.T) {
	s, d := fresh(t, roomy)
	for i := range 5 {
		was := lies(d)
		for range 3 {
			opened(t, d, "log")
		}
		if lies(d) != was {
			t.Errorf("Open behind %d batches has done something", i)
		}
		is(t, "Apply", s.Apply(some(i+1, i)), api.OK)
	}
}
