package drive_test

import (
	"math/rand"
	"slices"
	"strconv"
	"strings"
	"testing"

	"pantile/api"
)

// call is something that is asked of a drive, and told as a text.
type call struct {
	what string
	ask  func(d disk) string
}

func told(e api.Errno) string { return e.Error() }

// someNames are few, so that they come again, and some that are none.
func someNames() []string { return []string{"a", "b", "c/d", "c.d", "e_", "e-0", "A", ""} }

// anyCall is one of all calls, most of them deeds.
func anyCall(r *rand.Rand) call {
	name, other := someNames()[r.Intn(8)], someNames()[r.Intn(8)]
	data, n := []byte("abcdefgh")[:r.Intn(9)*r.Intn(2)], r.Intn(30)-5
	keep := numbered(r.Intn(4), func(int) int { return r.Intn(13) - 6 })
	what := name + " " + other + " " + string(data) + " " + strconv.Itoa(n)
	switch r.Intn(16) {
	case 0, 1:
		return call{"Create " + what, func(d disk) string { return told(d.Create(name)) }}
	case 2, 3, 4, 5, 6:
		return call{"Append " + what, func(d disk) string { return told(d.Append(name, data)) }}
	case 7:
		return call{"Sync " + what, func(d disk) string { return told(d.Sync(name)) }}
	case 8, 9:
		return call{"Rename " + what, func(d disk) string { return told(d.Rename(name, other)) }}
	case 10:
		return call{"Remove " + what, func(d disk) string { return told(d.Remove(name)) }}
	case 11:
		return call{"List " + what, func(d disk) string { return strings.Join(d.List(name), " ") }}
	case 12:
		return call{"Quota " + what, func(d disk) string { return told(d.Quota(n * 2)) }}
	case 13:
		return call{"Arm " + what, func(d disk) string { d.Arm(n); return "" }}
	}
	return call{"Up " + what, func(d disk) string { d.Up(keep); return "" }}
}

// P13.1, P13.2, P13.3: whatever is asked, in whatever order, the drive is as its model is.
func TestScripts(t *testing.T) {
	for script := range 400 {
		r := chance(int64(script))
		d, m := made(t, 40), &model{quota: 40}
		for range 150 {
			c := anyCall(r)
			if got, want := c.ask(d), c.ask(m); got != want {
				t.Fatalf("script %d: %s: %s, not %s", script, c.what, got, want)
			}
			alike(t, c.what, d, m)
		}
	}
}

// tale is a script of deeds in which files are made, synced in part, renamed over one another, and removed.
func tale(d disk) []func() api.Errno {
	one := func(name, data string) func() api.Errno {
		return func() api.Errno { return d.Append(name, []byte(data)) }
	}
	return []func() api.Errno{
		func() api.Errno { return d.Create("log") },
		one("log", "12"), one("log", "3"),
		func() api.Errno { return d.Sync("log") },
		one("log", "4"), one("log", ""), one("log", "56"),
		func() api.Errno { return d.Create("new") },
		one("new", "ab"),
		func() api.Errno { return d.Sync("new") },
		one("new", "c"), one("log", "7"), one("new", "de"),
		func() api.Errno { return d.Create("head") },
		one("head", "h"), one("head", "i"),
		func() api.Errno { return d.Rename("new", "log") },
		one("log", "f"),
		func() api.Errno { return d.Rename("head", "head.old") },
		func() api.Errno { return d.Sync("head.old") },
		one("head.old", "jk"),
		func() api.Errno { return d.Remove("log") },
		func() api.Errno { return d.Rename("head.old", "log") },
		one("log", "l"),
	}
}

// P13.3, P13.4: at whatever deed of a tale the power goes, and whatever is kept: what comes up is what the model says, and the tale goes on from there.
func TestTaleCutAnywhere(t *testing.T) {
	for at := range len(tale(nil)) + 1 {
		for first := -4; first < 5; first++ {
			for second := range 4 {
				d, m := made(t, 100), &model{quota: 100}
				d.Arm(at)
				m.Arm(at)
				deeds, wanted := tale(d), tale(m)
				for i := range deeds {
					is(t, "a deed", deeds[i](), wanted[i]())
					alike(t, "a deed", d, m)
					if !m.Alive() {
						d.Up([]int{first, second})
						m.Up([]int{first, second})
						alike(t, "up", d, m)
					}
				}
			}
		}
	}
}

// promise is what of a file has been synced, and what may be there at the most.
type promise struct{ synced, all string }

// keeper asks deeds of a drive, and knows what was promised of each file.
type keeper struct {
	d     disk
	files map[string]promise
}

// do asks one deed, and keeps in mind what of files it leaves, if it was done.
func (k keeper) do(r *rand.Rand, some int) {
	name, other := someNames()[r.Intn(6)], someNames()[r.Intn(6)]
	data := strings.Repeat(string(rune('a'+some%26)), r.Intn(4))
	switch r.Intn(8) {
	case 0:
		if k.d.Create(name) == api.OK {
			k.files[name] = promise{}
		}
	case 1, 2, 3, 4:
		if k.d.Append(name, []byte(data)) == api.OK {
			k.files[name] = promise{k.files[name].synced, k.files[name].all + data}
		}
	case 5, 6:
		if k.d.Sync(name) == api.OK {
			k.files[name] = promise{k.files[name].all, k.files[name].all}
		}
	default:
		if k.d.Rename(name, other) == api.OK && name != other {
			k.files[other] = k.files[name]
			delete(k.files, name)
		}
	}
}

// holds tells where a promise is broken, and takes what is there as what is promised from now on.
func (k keeper) holds(t *testing.T) {
	t.Helper()
	if got := k.d.List(""); len(got) != len(k.files) {
		t.Errorf("files %q, not those of %v", got, k.files)
	}
	for name, p := range k.files {
		b, e := k.d.Read(name)
		if e != api.OK || !strings.HasPrefix(string(b), p.synced) || !strings.HasPrefix(p.all, string(b)) {
			t.Errorf("%q has %q %v, of %q, of which %q was synced", name, b, e, p.all, p.synced)
		}
		k.files[name] = promise{string(b), string(b)}
	}
}

// P13.4: what was synced stays, and of what was not a first part, over many cuts.
func TestWhatWasSyncedStays(t *testing.T) {
	for script := range 300 {
		r := chance(int64(-script))
		k := keeper{made(t, 1000), map[string]promise{}}
		for range 8 {
			k.d.Arm(r.Intn(20))
			for some := 0; k.d.Alive(); some++ {
				k.do(r, some)
			}
			k.d.Up(numbered(r.Intn(5), func(int) int { return r.Intn(21) - 10 }))
			k.holds(t)
		}
	}
}

// P13.4: of pieces that were not synced each first part may be what stays, and nothing else; what stays then, stays.
func TestEachFirstPart(t *testing.T) {
	pieces := []string{"1", "23", "", "456", "7"}
	var got []string
	for n := range 12 {
		d := made(t, 100)
		put(t, d, "a", "S", pieces...)
		cut(t, d, "a")
		d.Up([]int{n})
		b, _ := d.Read("a")
		cut(t, d, "a")
		d.Up([]int{n + 1})
		has(t, d, "a", string(b))
		got = append(got, string(b))
	}
	want := []string{"S", "S1", "S123", "S123", "S123456", "S1234567"}
	if !slices.Equal(got, append(want, want...)) {
		t.Errorf("what stays: %q", got)
	}
}
