package drive_test

import (
	"bytes"
	"strconv"
	"strings"
	"testing"

	"pantile/api"
	"pantile/drive"
)

// P13.1: quotas that may be: a drive without files, for just so many bytes.
func TestNewOfQuota(t *testing.T) {
	for _, quota := range []int{0, 1, 2, 10, 255, 256, 65535, 65536, mostQuota - 1, mostQuota} {
		d := made(t, quota)
		lists(t, d, "")
		counts(t, d, 0, 0)
		if !d.Alive() {
			t.Errorf("New(%d): the power is not there", quota)
		}
		is(t, "Create", d.Create("a"), api.OK)
		is(t, "Append of one more", d.Append("a", make([]byte, quota+1)), api.ErrFull)
		is(t, "Append of all", d.Append("a", make([]byte, quota)), api.OK)
		is(t, "Append of one behind", d.Append("a", []byte{1}), api.ErrFull)
		is(t, "Append of none behind", d.Append("a", nil), api.OK)
		has(t, d, "a", strings.Repeat("\x00", quota))
		counts(t, d, quota, 3)
	}
}

// P13.1: quotas that may not be.
func TestNewOfNoQuota(t *testing.T) {
	for _, quota := range noQuotas() {
		if drive.New(quota) != nil {
			t.Errorf("New(%d): a drive", quota)
		}
	}
}

func noQuotas() []int {
	return []int{-1, -2, mostQuota + 1, mostQuota + 2, 2 * mostQuota, 1 << 31, 1 << 32, 1<<32 + 5, 5 - 1<<32, -mostQuota, least, least + 1, most - 1, most}
}

// P13.1: each byte by itself, ahead, in the middle and at the end of a name.
func TestBytesOfNames(t *testing.T) {
	for c := range 256 {
		one := string([]byte{byte(c)})
		for _, name := range []string{one, one + "b", "a" + one + "b", "a" + one, strings.Repeat("a", 59) + one} {
			named(t, name)
		}
	}
}

// P13.1: names of no byte, of one, of as many as may be, and of more; and such as only look like names.
func TestLengthsOfNames(t *testing.T) {
	for _, n := range []int{0, 1, 2, 30, 59, 60, 61, 62, 120, 256, 257, 316, 1000, 65537} {
		named(t, strings.Repeat("n", n))
		named(t, strings.Repeat("/", n))
		named(t, strings.Repeat("N", n))
	}
	for _, name := range []string{
		"a/b.c-d_e/0123456789", ".", "..", "/", "//", "-", "_", "a b", " a", "a ", "a\n", "a\x00", "\x00a", "Stage", "stagE", "a\\b", "a:b", "a,b", "a~", "a`", "a{", "a@", "a[", "a^",
		"\u00e4", "a\u00e4", "\u212a", "\u0131", "\ufffd", "a\xff", "\xc3", "\xed\xa0\x80", "\uff41", strings.Repeat("\u00e4", 30),
	} {
		named(t, name)
	}
}

// named tells where a text is taken for a name, and is none, or the other way.
func named(t *testing.T, name string) {
	t.Helper()
	d := made(t, 10)
	put(t, d, "from", "xy", "z")
	want, there := api.ErrArg, []string{"from"}
	if modelName(name) {
		want, there = api.OK, []string{name}
	}
	if e := d.Rename("from", name); e != want {
		t.Errorf("Rename to %.100q: %v", name, e)
	}
	lists(t, d, "", there...)
	has(t, d, there[0], "xyz")
	if modelName(name) {
		is(t, "Remove", d.Remove(name), api.OK)
	}
	if e := d.Create(name); e != want {
		t.Errorf("Create of %.100q: %v", name, e)
	}
	if modelName(name) {
		has(t, d, name, "")
		is(t, "Create again", d.Create(name), api.ErrExist)
		return
	}
	lists(t, d, "", "from")
	is(t, "Append to no name", d.Append(name, nil), api.ErrNone)
	is(t, "Sync of no name", d.Sync(name), api.ErrNone)
	is(t, "Remove of no name", d.Remove(name), api.ErrNone)
	is(t, "Rename of no name", d.Rename(name, "b"), api.ErrNone)
	is(t, "Rename of no name to none", d.Rename(name, name), api.ErrNone)
	hasNone(t, d, name, api.ErrNone)
	counts(t, d, 3, 4)
}

// P13.1: a file that is made is empty; one that is there is not made again, and stays as it is.
func TestCreate(t *testing.T) {
	d := made(t, 10)
	is(t, "Create", d.Create("a"), api.OK)
	has(t, d, "a", "")
	is(t, "Create again", d.Create("a"), api.ErrExist)
	is(t, "Append", d.Append("a", []byte("12")), api.OK)
	is(t, "Create again", d.Create("a"), api.ErrExist)
	has(t, d, "a", "12")
	is(t, "Create of another", d.Create("a/a"), api.OK)
	is(t, "Create of no name", d.Create("a a"), api.ErrArg)
	has(t, d, "a", "12")
	has(t, d, "a/a", "")
	lists(t, d, "", "a", "a/a")
	counts(t, d, 2, 3)
}

// P13.1: as many files as may be, and one more; what has no room, is no name, or is there already, is told in the chapter's order; there is room again behind one that is no more.
func TestMostFiles(t *testing.T) {
	d := made(t, 5)
	name := func(i int) string { return "f/" + strconv.Itoa(i) }
	for i := range mostFiles {
		if e := d.Create(name(i)); e != api.OK {
			t.Fatalf("Create of file %d: %v", i, e)
		}
	}
	is(t, "Create of one more", d.Create("g"), api.ErrFull)
	is(t, "Create of one that is there", d.Create(name(7)), api.ErrExist)
	is(t, "Create of no name", d.Create("G"), api.ErrArg)
	is(t, "Rename to a new name", d.Rename(name(9), "g"), api.OK)
	is(t, "Create of one more", d.Create(name(9)), api.ErrFull)
	is(t, "Append", d.Append("g", []byte("12345")), api.OK)
	if l := d.List(""); len(l) != mostFiles || l[mostFiles-1] != "g" {
		t.Errorf("%d files", len(l))
	}
	counts(t, d, 5, mostFiles+2)
	is(t, "Rename to one that is there", d.Rename("g", name(0)), api.OK)
	is(t, "Create where one is no more", d.Create("g"), api.OK)
	is(t, "Create of one more", d.Create("h"), api.ErrFull)
	is(t, "Remove", d.Remove(name(3)), api.OK)
	is(t, "Create where one is no more", d.Create("h"), api.OK)
	is(t, "Create of one more", d.Create(name(3)), api.ErrFull)
	cut(t, d, "g")
	d.Up(nil)
	is(t, "Create of one more", d.Create(name(3)), api.ErrFull)
	if l := d.List(""); len(l) != mostFiles {
		t.Errorf("%d files", len(l))
	}
}

// P13.1: pieces come one behind the other, each file's by themselves, of no bytes, too.
func TestAppend(t *testing.T) {
	d := made(t, 2000)
	put(t, d, "a", "")
	put(t, d, "b", "")
	want := ""
	for n := range 50 {
		piece := bytes.Repeat([]byte{byte(n), '\n', 255}, n%7)
		is(t, "Append", d.Append("a", piece), api.OK)
		is(t, "Append", d.Append("b", piece[:len(piece)/2]), api.OK)
		want += string(piece)
		has(t, d, "a", want)
	}
	is(t, "Append of nil", d.Append("a", nil), api.OK)
	is(t, "Append of no bytes", d.Append("a", []byte{}), api.OK)
	has(t, d, "a", want)
	is(t, "Append to none", d.Append("c", []byte("1")), api.ErrNone)
	is(t, "Append of no bytes to none", d.Append("c", nil), api.ErrNone)
	lists(t, d, "", "a", "b")
	if d.Deeds() != 104 {
		t.Errorf("%d deeds", d.Deeds())
	}
}

// P13.1: the quota is of all files, to the last byte: of safe ones and of pieces; what is refused leaves all as it was.
func TestAppendFull(t *testing.T) {
	d := made(t, 10)
	put(t, d, "a", "123", "4", "")
	put(t, d, "b", "56")
	is(t, "Append of five with room for four", d.Append("b", make([]byte, 5)), api.ErrFull)
	is(t, "Append of more than an int of 32 bits", d.Append("b", make([]byte, 1<<25)), api.ErrFull)
	is(t, "Append of more to none", d.Append("c", make([]byte, 11)), api.ErrNone)
	has(t, d, "a", "1234")
	has(t, d, "b", "56")
	counts(t, d, 6, 8)
	is(t, "Append of four", d.Append("b", []byte("7890")), api.OK)
	for _, name := range []string{"a", "b"} {
		is(t, "Append of one more", d.Append(name, []byte("x")), api.ErrFull)
		is(t, "Append of no bytes", d.Append(name, nil), api.OK)
	}
	has(t, d, "b", "567890")
	is(t, "Create without room", d.Create("c"), api.OK)
	is(t, "Append of one more", d.Append("c", []byte("x")), api.ErrFull)
	is(t, "Sync without room", d.Sync("b"), api.OK)
	counts(t, d, 10, 13)
}

// P13.1: there is room again for as many bytes as are no more: removed, put out of the way by another file, or lost.
func TestRoomAgain(t *testing.T) {
	full := func(d *drive.Drive, room int) {
		t.Helper()
		is(t, "Append of one more than there is room for", d.Append("z", make([]byte, room+1)), api.ErrFull)
		is(t, "Append of what there is room for", d.Append("z", make([]byte, room)), api.OK)
		if d.Used() != 20 {
			t.Errorf("used %d", d.Used())
		}
	}
	filled := func() *drive.Drive {
		d := made(t, 20)
		put(t, d, "a", "1234", "56", "7")
		put(t, d, "b", "89", "abc")
		put(t, d, "z", "defgh", "ijk")
		is(t, "Append of one more", d.Append("z", []byte("l")), api.ErrFull)
		return d
	}
	d := filled()
	is(t, "Remove", d.Remove("a"), api.OK)
	full(d, 7)
	d = filled()
	is(t, "Rename", d.Rename("a", "b"), api.OK)
	full(d, 5)
	d = filled()
	is(t, "Rename", d.Rename("b", "a"), api.OK)
	full(d, 7)
	d = filled()
	is(t, "Rename", d.Rename("b", "b"), api.OK)
	is(t, "Rename", d.Rename("a", "c"), api.OK)
	full(d, 0)
	d = filled()
	cut(t, d, "a")
	d.Up([]int{1, 0})
	full(d, 4)
	d = filled()
	cut(t, d, "a")
	d.Up(nil)
	full(d, 9)
}

// P13.1: a file that is synced loses nothing, and no other one is; it may be synced without pieces.
func TestSync(t *testing.T) {
	d := made(t, 100)
	put(t, d, "a", "", "1", "", "23")
	put(t, d, "b", "x", "y")
	put(t, d, "c", "")
	is(t, "Sync", d.Sync("a"), api.OK)
	is(t, "Sync of no pieces", d.Sync("a"), api.OK)
	is(t, "Sync of an empty file", d.Sync("c"), api.OK)
	is(t, "Sync of none", d.Sync("d"), api.ErrNone)
	has(t, d, "a", "123")
	counts(t, d, 5, 12)
	is(t, "Append", d.Append("a", []byte("4")), api.OK)
	cut(t, d, "a")
	d.Up(nil)
	has(t, d, "a", "123")
	has(t, d, "b", "x")
	has(t, d, "c", "")
	counts(t, d, 4, 13)
}

// P13.1: what a file is, another one's name has then: its safe bytes as such, its pieces as pieces; what the other one was is no more.
func TestRename(t *testing.T) {
	for _, c := range []struct {
		keep []int
		want string
	}{{nil, "12"}, {[]int{0}, "12"}, {[]int{1}, "123"}, {[]int{2}, "1234"}, {[]int{3}, "123456"}} {
		for _, to := range []string{"b", "0", "c", "z"} {
			d := made(t, 100)
			put(t, d, "a", "12", "3", "4", "56")
			put(t, d, "c", "other", "o", "t", "h", "e", "r")
			put(t, d, "z", "more")
			is(t, "Rename", d.Rename("a", to), api.OK)
			has(t, d, to, "123456")
			hasNone(t, d, "a", api.ErrNone)
			is(t, "Create where it was", d.Create("a"), api.OK)
			has(t, d, "a", "")
			cut(t, d, "a")
			d.Up(c.keep)
			has(t, d, to, c.want)
			has(t, d, "a", "")
		}
	}
}

// P13.1: renames that are refused, in the chapter's order, change nothing.
func TestRenameRefused(t *testing.T) {
	d := made(t, 100)
	put(t, d, "a", "12", "3")
	for _, to := range []string{"", "B", "a ", "a\x00", strings.Repeat("a", 61)} {
		is(t, "Rename to no name", d.Rename("a", to), api.ErrArg)
		is(t, "Rename of none to no name", d.Rename("c", to), api.ErrNone)
		is(t, "Rename of no name to none", d.Rename(to, to), api.ErrNone)
	}
	is(t, "Rename of none", d.Rename("c", "b"), api.ErrNone)
	is(t, "Rename of none to one that is there", d.Rename("c", "a"), api.ErrNone)
	is(t, "Rename of none to itself", d.Rename("c", "c"), api.ErrNone)
	is(t, "Rename of what may be part of a name", d.Rename("", "b"), api.ErrNone)
	lists(t, d, "", "a")
	has(t, d, "a", "123")
	counts(t, d, 3, 4)
}

// P13.1: a file that is renamed to itself stays as it is, pieces as pieces; but it is a deed.
func TestRenameToItself(t *testing.T) {
	d := made(t, 100)
	put(t, d, "a", "12", "3", "4")
	put(t, d, "b", "5")
	for range 3 {
		is(t, "Rename", d.Rename("a", "a"), api.OK)
		is(t, "Rename", d.Rename("b", "b"), api.OK)
	}
	has(t, d, "a", "1234")
	lists(t, d, "", "a", "b")
	counts(t, d, 5, 14)
	d.Arm(1)
	is(t, "Rename", d.Rename("a", "a"), api.OK)
	is(t, "Rename", d.Rename("a", "a"), api.ErrDown)
	counts(t, d, 5, 15)
	d.Up([]int{1})
	has(t, d, "a", "123")
	has(t, d, "b", "5")
}

// P13.1: a file that is removed is no more: nothing of it comes back, not in a new one of its name.
func TestRemove(t *testing.T) {
	d := made(t, 100)
	put(t, d, "a", "12", "3", "4")
	put(t, d, "a/b", "5", "6")
	is(t, "Remove of none", d.Remove("b"), api.ErrNone)
	is(t, "Remove", d.Remove("a"), api.OK)
	is(t, "Remove again", d.Remove("a"), api.ErrNone)
	hasNone(t, d, "a", api.ErrNone)
	lists(t, d, "", "a/b")
	counts(t, d, 2, 10)
	put(t, d, "a", "", "7")
	has(t, d, "a", "7")
	cut(t, d, "a")
	d.Up([]int{9, 1})
	has(t, d, "a", "7")
	has(t, d, "a/b", "56")
	is(t, "Remove", d.Remove("a"), api.OK)
	is(t, "Remove", d.Remove("a/b"), api.OK)
	is(t, "Create", d.Create("c"), api.OK)
	cut(t, d, "c")
	d.Up([]int{5})
	lists(t, d, "", "c")
	counts(t, d, 0, 15)
}
