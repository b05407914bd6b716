package drive_test

import (
	"slices"
	"strconv"
	"strings"
	"testing"

	"pantile/api"
	"pantile/drive"
)

// deeds are one of each kind, each of which would be OK on a drive that stocked has made, one behind the other, too.
func deeds() []func(d disk) api.Errno {
	return []func(d disk) api.Errno{
		func(d disk) api.Errno { return d.Create("new") },
		func(d disk) api.Errno { return d.Append("a", []byte("56")) },
		func(d disk) api.Errno { return d.Append("a", nil) },
		func(d disk) api.Errno { return d.Sync("a") },
		func(d disk) api.Errno { return d.Rename("b", "c") },
		func(d disk) api.Errno { return d.Rename("a", "a") },
		func(d disk) api.Errno { return d.Rename("a", "c") },
		func(d disk) api.Errno { return d.Remove("c") },
	}
}

// stocked is a drive with some files, and its model.
func stocked(t *testing.T) (*drive.Drive, *model) {
	t.Helper()
	d, m := made(t, 50), &model{quota: 50}
	for _, x := range []disk{d, m} {
		put(t, x, "a", "12", "3", "4")
		put(t, x, "b", "", "7", "", "89")
		put(t, x, "c", "0")
	}
	return d, m
}

// P13.3: the power goes at the deed behind as many more, whatever kind that is, and whatever kinds these are: it is not done, and all stays as it was.
func TestArm(t *testing.T) {
	for first := range deeds() {
		for after := range deeds()[first:] {
			d, m := stocked(t)
			d.Arm(after)
			for _, deed := range deeds()[first : first+after] {
				is(t, "a deed ahead", deed(d), deed(m))
			}
			alike(t, "ahead of the one", d, m)
			is(t, "the one", deeds()[first+after](d), api.ErrDown)
			if d.Alive() || d.Used() != m.Used() || d.Deeds() != m.Deeds() {
				t.Errorf("deeds %d to %d: alive %v, used %d, deeds %d", first, first+after, d.Alive(), d.Used(), d.Deeds())
			}
			m.down = true
			d.Up([]int{1, 2})
			m.Up([]int{1, 2})
			alike(t, "up again", d, m)
		}
	}
}

// P13.3: a long way off, the power goes at just that deed.
func TestArmFarOff(t *testing.T) {
	for _, after := range []int{1, 2, 99, 255, 256, 257, 1000, 65536} {
		d := made(t, 5)
		put(t, d, "a", "")
		d.Arm(after)
		for i := range after {
			if e := d.Sync("a"); e != api.OK {
				t.Fatalf("Arm(%d): deed %d: %v", after, i, e)
			}
		}
		is(t, "the one", d.Sync("a"), api.ErrDown)
		counts(t, d, 0, after+1)
	}
}

// P13.3: a call that is refused is no deed: the power does not go at it, and it is not counted; nor are the calls that tell.
func TestArmPastRefusals(t *testing.T) {
	for after := range 4 {
		d, _ := stocked(t)
		d.Arm(after)
		others := func() {
			refusals(t, d)
			is(t, "Quota", d.Quota(40), api.OK)
			is(t, "Quota that may not be", d.Quota(-1), api.ErrArg)
			hasNone(t, d, "none", api.ErrNone)
			lists(t, d, "a", "a")
			counts(t, d, 8, d.Deeds())
			if !d.Alive() {
				t.Error("the power went at no deed")
			}
		}
		for range after {
			others()
			is(t, "a deed ahead", d.Rename("a", "a"), api.OK)
		}
		others()
		is(t, "the one", d.Rename("a", "a"), api.ErrDown)
	}
}

// P13.3: below 0 it does not go, neither at first, nor once it was armed.
func TestNotArmed(t *testing.T) {
	for _, after := range []int{-1, -2, -100, least, least + 1} {
		for _, armed := range []bool{false, true} {
			d, m := stocked(t)
			if armed {
				d.Arm(0)
			}
			d.Arm(after)
			for range 3 {
				for _, deed := range deeds() {
					is(t, "a deed", deed(d), deed(m))
				}
				alike(t, "not armed", d, m)
			}
		}
	}
	d, _ := stocked(t)
	d.Arm(most)
	for range 300 {
		is(t, "a deed", d.Sync("a"), api.OK)
	}
}

// P13.3: what was told last holds, counted from then on.
func TestArmAgain(t *testing.T) {
	for _, c := range []struct{ first, done, second int }{{0, 0, 2}, {5, 0, 1}, {5, 3, 4}, {2, 2, 2}, {1, 1, 0}, {-1, 4, 3}, {most, 9, 1}} {
		d := made(t, 5)
		put(t, d, "a", "")
		d.Arm(c.first)
		for range c.done {
			is(t, "a deed", d.Sync("a"), api.OK)
		}
		d.Arm(c.second)
		for range c.second {
			is(t, "a deed", d.Sync("a"), api.OK)
		}
		is(t, "the one", d.Sync("a"), api.ErrDown)
		counts(t, d, 0, 1+c.done+c.second)
	}
}

// P13.3: while the power is gone each call tells ErrDown, or nothing, ahead of all else, be its arguments right or wrong, and changes nothing.
func TestDown(t *testing.T) {
	d, m := stocked(t)
	cut(t, d, "a")
	texts := append(d.List(""), "a", "b", "new", "none", "", "A", strings.Repeat("a", 61))
	for range 2 {
		for _, name := range texts {
			is(t, "Create", d.Create(name), api.ErrDown)
			is(t, "Append", d.Append(name, []byte("1")), api.ErrDown)
			is(t, "Append", d.Append(name, nil), api.ErrDown)
			is(t, "Append", d.Append(name, make([]byte, 1000)), api.ErrDown)
			is(t, "Sync", d.Sync(name), api.ErrDown)
			is(t, "Remove", d.Remove(name), api.ErrDown)
			for _, to := range texts {
				is(t, "Rename", d.Rename(name, to), api.ErrDown)
			}
			hasNone(t, d, name, api.ErrDown)
			lists(t, d, name)
		}
		for _, n := range []int{0, 8, mostQuota, -1, mostQuota + 1, least, most} {
			is(t, "Quota", d.Quota(n), api.ErrDown)
		}
		counts(t, d, 8, m.Deeds())
		if d.Alive() {
			t.Error("the power is there")
		}
		d.Arm(7)
	}
	m.down = true
	d.Up([]int{1})
	m.Up([]int{1})
	alike(t, "up", d, m)
	is(t, "Append of one more than the quota", d.Append("a", make([]byte, 51-d.Used())), api.ErrFull)
	is(t, "Append of all", d.Append("a", make([]byte, 50-d.Used())), api.OK)
}

// P13.3: behind Up nothing is armed: not what was armed ahead, nor while the power was gone.
func TestUpDisarms(t *testing.T) {
	for _, after := range []int{0, 1, 5, -1} {
		for _, gone := range []bool{false, true} {
			d, m := stocked(t)
			if gone {
				cut(t, d, "a")
				m.down = true
			}
			d.Arm(after)
			d.Up([]int{2})
			m.Up([]int{2})
			for range 3 {
				for _, deed := range deeds() {
					is(t, "a deed", deed(d), deed(m))
				}
			}
			alike(t, "not armed", d, m)
		}
	}
}

// P13.3: where the power is there, Up does nothing else: pieces stay, and stay pieces.
func TestUpWhereThePowerIsThere(t *testing.T) {
	for _, keep := range [][]int{nil, {}, {0}, {1}, {2, -1, 5}} {
		d, m := stocked(t)
		d.Up(keep)
		alike(t, "up", d, m)
		cut(t, d, "a")
		m.down = true
		d.Up(keep)
		m.Up(keep)
		alike(t, "up behind the cut", d, m)
		d.Up([]int{0})
		alike(t, "up twice", d, m)
	}
}

// P13.3: how many of its pieces each file keeps, written out: a has safe bytes, b nothing but safe ones, c pieces alone, d a piece of no bytes ahead, e no bytes.
func TestKeep(t *testing.T) {
	for _, c := range []struct {
		keep    []int
		a, c, d string
	}{
		{nil, "S", "", ""},
		{[]int{}, "S", "", ""},
		{[]int{0}, "S", "", ""},
		{[]int{1}, "S1", "x", ""},
		{[]int{2}, "S12", "xy", "mn"},
		{[]int{3}, "S123", "", "mno"},
		{[]int{4}, "S", "x", ""},
		{[]int{-1}, "S", "", ""},
		{[]int{-2}, "S1", "x", ""},
		{[]int{-3}, "S12", "xy", "mn"},
		{[]int{-4}, "S123", "", "mno"},
		{[]int{-5}, "S", "x", ""},
		{[]int{3, 2, 3}, "S123", "xy", "mno"},
		{[]int{0, 1, 2}, "S", "x", "mn"},
		{[]int{2, 0, 1}, "S12", "", ""},
		{[]int{1, 2}, "S1", "xy", ""},
		{[]int{2, 1}, "S12", "x", "mn"},
		{[]int{-3, 5}, "S12", "xy", "mn"},
		{[]int{3, 2, 1, 0}, "S123", "xy", ""},
		{[]int{0, 0, 3, 1, 2}, "S", "", "mno"},
		{[]int{most, least, most - 1}, "S123", "x", "mn"},
	} {
		d := made(t, 100)
		put(t, d, "e", "")
		put(t, d, "d", "", "", "mn", "o")
		put(t, d, "c", "", "x", "y")
		put(t, d, "b", "safe")
		put(t, d, "a", "S", "1", "2", "3")
		cut(t, d, "a")
		d.Up(c.keep)
		for range 2 {
			has(t, d, "a", c.a)
			has(t, d, "b", "safe")
			has(t, d, "c", c.c)
			has(t, d, "d", c.d)
			has(t, d, "e", "")
			lists(t, d, "", "a", "b", "c", "d", "e")
			counts(t, d, 4+len(c.a)+len(c.c)+len(c.d), 17)
			cut(t, d, "a") // what was kept is safe: nothing of it is lost another time
			d.Up(nil)
		}
	}
}

// P13.3: of each number of pieces, what each number keeps.
func TestKeepCountedRound(t *testing.T) {
	numbers := append(numbered(41, func(i int) int { return i - 20 }), least, least+1, least+2, most-2, most-1, most, 1<<32, 1<<32+1, -1<<32)
	for pieces := range 9 {
		for _, n := range numbers {
			d := made(t, 100)
			put(t, d, "a", "S", slices.Repeat([]string{"p"}, pieces)...)
			cut(t, d, "a")
			d.Up([]int{n})
			has(t, d, "a", "S"+strings.Repeat("p", modelKept([]int{n}, 0, pieces)))
		}
	}
}

// P13.3: the numbers are those of the files that have pieces, by their names, whatever order they came in; where they are fewer, they are gone through again.
func TestKeepByNames(t *testing.T) {
	const files = 30
	pieces := map[string]int{}
	var came []string
	for i := range files {
		name := strings.Repeat("f", i%3+1) + strconv.Itoa((i*11+5)%files)
		came = append(came, name)
		pieces[name] = i * 7 % 4
	}
	rising := slices.Sorted(slices.Values(came))
	for numbers := range files + 4 {
		keep := numbered(numbers, func(i int) int { return i*i - 7*i })
		d := made(t, 1000)
		for _, name := range came {
			put(t, d, name, "", slices.Repeat([]string{"p"}, pieces[name])...)
		}
		cut(t, d, came[0])
		d.Up(keep)
		at := 0
		for _, name := range rising {
			want := 0
			if pieces[name] > 0 {
				want = modelKept(keep, at, pieces[name])
				at++
			}
			has(t, d, name, strings.Repeat("p", want))
		}
	}
}

// P13.3: a file that has been synced, or made anew by a rename or a remove, has no pieces any more, and takes no number.
func TestKeepTakesNoNumber(t *testing.T) {
	d := made(t, 100)
	for _, name := range []string{"a", "b", "c", "d", "e"} {
		put(t, d, name, "S", "1", "2", "3")
	}
	is(t, "Sync", d.Sync("a"), api.OK)
	is(t, "Remove", d.Remove("b"), api.OK)
	is(t, "Create", d.Create("b"), api.OK)
	is(t, "Rename", d.Rename("a", "c"), api.OK)
	cut(t, d, "c")
	d.Up([]int{1, 2, 3})
	has(t, d, "b", "")
	has(t, d, "c", "S123")
	has(t, d, "d", "S1")
	has(t, d, "e", "S12")
	is(t, "Append", d.Append("e", []byte("4")), api.OK)
	is(t, "Append", d.Append("c", []byte("5")), api.OK)
	cut(t, d, "c")
	d.Up([]int{0, 1})
	has(t, d, "c", "S123")
	has(t, d, "d", "S1")
	has(t, d, "e", "S124")
}
