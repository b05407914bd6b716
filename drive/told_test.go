package drive_test

import (
	"strings"
	"testing"

	"pantile/api"
)

// P13.2: what a file has is its safe bytes and all its pieces; of none there is nothing.
func TestRead(t *testing.T) {
	d := made(t, 1000)
	put(t, d, "a", "")
	put(t, d, "b", "12")
	put(t, d, "c", "", "3", "", "45")
	put(t, d, "d", "67", "8", "9")
	all := string(numberedBytes())
	put(t, d, "e", all, all, "")
	for range 2 {
		has(t, d, "a", "")
		has(t, d, "b", "12")
		has(t, d, "c", "345")
		has(t, d, "d", "6789")
		has(t, d, "e", all+all)
	}
	for _, name := range []string{"", "f", "A", "a/", "bb", "a ", strings.Repeat("a", 61)} {
		hasNone(t, d, name, api.ErrNone)
	}
	counts(t, d, 521, 18)
}

func numberedBytes() []byte {
	out := make([]byte, 256)
	for i := range out {
		out[i] = byte(i)
	}
	return out
}

// P13.2: the names that begin with a prefix, by their bytes, in whatever order the files came.
func TestList(t *testing.T) {
	d := made(t, 10)
	rising := []string{"-", ".", "..", "/", "/a", "0", "00", "10", "2", "9", "_", "_a", "a", "a-b", "a.b", "a/", "a/b", "a0", "a_", "aa", "ab", "b", "z", strings.Repeat("z", 60)}
	for i := range rising {
		is(t, "Create", d.Create(rising[(i*7+3)%len(rising)]), api.OK)
	}
	lists(t, d, "", rising...)
	for _, prefix := range append(rising, "A", "", "c", "a/b/", "a\x00", "\xff", strings.Repeat("z", 59), strings.Repeat("z", 61), "zz ", "\u00e4") {
		var want []string
		for _, name := range rising {
			if strings.HasPrefix(name, prefix) {
				want = append(want, name)
			}
		}
		lists(t, d, prefix, want...)
	}
	lists(t, d, "a", "a", "a-b", "a.b", "a/", "a/b", "a0", "a_", "aa", "ab")
	lists(t, d, "a/", "a/", "a/b")
	lists(t, d, "a/b", "a/b")
	lists(t, d, "a/bc")
	is(t, "Remove", d.Remove("a/"), api.OK)
	is(t, "Rename", d.Rename("z", "a/a"), api.OK)
	lists(t, d, "a/", "a/a", "a/b")
	lists(t, d, "z", strings.Repeat("z", 60))
	lists(t, made(t, 10), "")
}

// P13.2: how many bytes all files have, behind each call.
func TestUsed(t *testing.T) {
	d := made(t, 100)
	used := func(want int, e api.Errno) {
		t.Helper()
		if d.Used() != want || e != api.OK {
			t.Errorf("used %d, not %d, behind %v", d.Used(), want, e)
		}
	}
	used(0, d.Create("a"))
	used(3, d.Append("a", []byte("123")))
	used(3, d.Sync("a"))
	used(5, d.Append("a", []byte("45")))
	used(5, d.Append("a", nil))
	used(5, d.Create("b"))
	used(6, d.Append("b", []byte("6")))
	used(6, d.Rename("b", "c"))
	used(6, d.Rename("c", "c"))
	used(5, d.Rename("a", "c"))
	used(5, d.Create("a"))
	used(9, d.Append("a", []byte("7890")))
	used(9, d.Quota(0))
	used(5, d.Remove("a"))
	cut(t, d, "c")
	used(5, api.OK)
	d.Up([]int{0})
	used(3, api.OK)
	used(0, d.Remove("c"))
}

// P13.2: each deed counts one; what was refused, and what is none, counts nothing.
func TestDeeds(t *testing.T) {
	d := made(t, 5)
	for i, deed := range []func() api.Errno{
		func() api.Errno { return d.Create("a") },
		func() api.Errno { return d.Append("a", []byte("123")) },
		func() api.Errno { return d.Append("a", nil) },
		func() api.Errno { return d.Sync("a") },
		func() api.Errno { return d.Sync("a") },
		func() api.Errno { return d.Rename("a", "a") },
		func() api.Errno { return d.Rename("a", "b") },
		func() api.Errno { return d.Create("a") },
		func() api.Errno { return d.Rename("b", "a") },
		func() api.Errno { return d.Remove("a") },
		func() api.Errno { return d.Create("a") },
	} {
		is(t, "deed", deed(), api.OK)
		if d.Deeds() != i+1 {
			t.Errorf("%d deeds behind that of %d", d.Deeds(), i+1)
		}
		for range 2 {
			refusals(t, d)
			d.Read("a")
			d.List("")
			d.Used()
			d.Alive()
			d.Arm(3)
			d.Arm(-1)
			d.Up([]int{1})
			d.Quota(5)
			d.Quota(-5)
		}
		if d.Deeds() != i+1 {
			t.Errorf("%d deeds behind %d and no others", d.Deeds(), i+1)
		}
	}
	cut(t, d, "a")
	is(t, "Create", d.Create("b"), api.ErrDown)
	if d.Deeds() != 11 {
		t.Errorf("%d deeds while the power is gone", d.Deeds())
	}
	d.Up(nil)
	is(t, "Create", d.Create("b"), api.OK)
	if d.Deeds() != 12 {
		t.Errorf("%d deeds once it is there again", d.Deeds())
	}
}

// refusals are calls of each kind that are refused, each by its own error, of a drive that has no file "none", and no room for 1000 bytes.
func refusals(t *testing.T, d disk) {
	t.Helper()
	is(t, "Create of no name", d.Create("None"), api.ErrArg)
	is(t, "Append to none", d.Append("none", []byte("1")), api.ErrNone)
	is(t, "Sync of none", d.Sync("none"), api.ErrNone)
	is(t, "Rename of none", d.Rename("none", "a"), api.ErrNone)
	is(t, "Remove of none", d.Remove("none"), api.ErrNone)
	for _, name := range d.List("") {
		is(t, "Create of one that is there", d.Create(name), api.ErrExist)
		is(t, "Append without room", d.Append(name, make([]byte, 1000)), api.ErrFull)
		is(t, "Rename to no name", d.Rename(name, "None"), api.ErrArg)
	}
}

// P13.2: a quota holds from now on, be it less than what is used, of no byte, or as great as may be.
func TestQuota(t *testing.T) {
	d := made(t, 10)
	put(t, d, "a", "12345", "67")
	is(t, "Quota", d.Quota(7), api.OK)
	is(t, "Append of one more", d.Append("a", []byte("8")), api.ErrFull)
	is(t, "Append of no bytes", d.Append("a", nil), api.OK)
	is(t, "Quota", d.Quota(8), api.OK)
	is(t, "Append of two more", d.Append("a", []byte("89")), api.ErrFull)
	is(t, "Append of one more", d.Append("a", []byte("8")), api.OK)
	for _, less := range []int{7, 3, 0} {
		is(t, "Quota", d.Quota(less), api.OK)
		is(t, "Append without room", d.Append("a", []byte("9")), api.ErrFull)
		is(t, "Append of no bytes, where all have more already", d.Append("a", nil), api.ErrFull)
		is(t, "Create", d.Create("b"), api.OK)
		is(t, "Sync", d.Sync("a"), api.OK)
		is(t, "Rename", d.Rename("b", "c"), api.OK)
		is(t, "Remove", d.Remove("c"), api.OK)
		has(t, d, "a", "12345678")
		counts(t, d, 8, d.Deeds())
	}
	is(t, "Quota", d.Quota(mostQuota), api.OK)
	is(t, "Append of one more than there may be", d.Append("a", make([]byte, mostQuota-7)), api.ErrFull)
	is(t, "Append of as many as there may be", d.Append("a", make([]byte, mostQuota-8)), api.OK)
	counts(t, d, mostQuota, d.Deeds())
}

// P13.2: a quota that may not be leaves the one that is.
func TestNoQuota(t *testing.T) {
	for _, n := range noQuotas() {
		d := made(t, 5)
		put(t, d, "a", "", "12")
		if e := d.Quota(n); e != api.ErrArg {
			t.Errorf("Quota(%d): %v", n, e)
		}
		is(t, "Append of four where there is room for three", d.Append("a", make([]byte, 4)), api.ErrFull)
		is(t, "Append of three", d.Append("a", []byte("345")), api.OK)
		has(t, d, "a", "12345")
		counts(t, d, 5, 3)
	}
}

// P13.2: the power is there until it goes, and again behind Up.
func TestAlive(t *testing.T) {
	d := made(t, 5)
	alive := func(what string, want bool) {
		t.Helper()
		if d.Alive() != want {
			t.Errorf("%s: alive %v", what, !want)
		}
	}
	alive("at first", true)
	d.Arm(0)
	alive("armed", true)
	refusals(t, d)
	alive("armed, behind calls that are refused", true)
	is(t, "Create", d.Create("a"), api.ErrDown)
	alive("gone", false)
	d.Read("a")
	d.Arm(5)
	d.Create("b")
	d.Quota(3)
	alive("gone, behind other calls", false)
	d.Up(nil)
	alive("up", true)
	is(t, "Create", d.Create("a"), api.OK)
	alive("up, behind a deed", true)
	d.Up(nil)
	alive("up twice", true)
	for range 3 {
		cut(t, d, "a")
		alive("gone again", false)
		d.Up(nil)
		alive("up again", true)
	}
}
