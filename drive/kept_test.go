package drive_test

import (
	"bytes"
	"slices"
	"strings"
	"testing"
	"unsafe"

	"pantile/api"
)

// R4: data that are handed in are not changed, their spare room neither; nor kept: what is done to them later changes no file.
func TestDataAreNotKept(t *testing.T) {
	data := append([]byte("abcdef"), "behind"...)
	was := bytes.Clone(data)
	d := made(t, 1000)
	put(t, d, "a", "")
	put(t, d, "b", "S")
	want := ""
	for n := range 7 {
		for range 2 {
			is(t, "Append", d.Append("a", data[:n]), api.OK)
			is(t, "Append", d.Append("b", data[:n]), api.OK)
			want += "abcdef"[:n]
			if !bytes.Equal(data, was) {
				t.Fatalf("Append of %d bytes left %q", n, data)
			}
		}
		spoil(data)
		has(t, d, "a", want)
		has(t, d, "b", "S"+want)
		copy(data, was)
		is(t, "Sync", d.Sync("b"), api.OK)
		spoil(data)
		has(t, d, "b", "S"+want)
		copy(data, was)
	}
}

func spoil(b []byte) {
	for i := range b {
		b[i] ^= 255
	}
}

// R4: data that come first, or behind a cut, are no less copied than others.
func TestFirstDataAreNotKept(t *testing.T) {
	d := made(t, 100)
	put(t, d, "a", "")
	first := []byte("first")
	is(t, "Append", d.Append("a", first), api.OK)
	spoil(first)
	has(t, d, "a", "first")
	cut(t, d, "a")
	d.Up(nil)
	second := []byte("second")
	is(t, "Append", d.Append("a", second), api.OK)
	spoil(second)
	has(t, d, "a", "second")
	cut(t, d, "a")
	d.Up([]int{1})
	has(t, d, "a", "second")
}

// R4: names that are handed in are not kept: no file's name is a piece of them.
func TestNamesAreNotKept(t *testing.T) {
	long := strings.Repeat("n", 1000)
	begin := uintptr(unsafe.Pointer(unsafe.StringData(long)))
	d := made(t, 100)
	is(t, "Create", d.Create(long[:20]), api.OK)
	is(t, "Rename", d.Rename(long[:20], long[20:50]), api.OK)
	is(t, "Create", d.Create(long[50:60]), api.OK)
	is(t, "Rename to one that is there", d.Rename(long[70:80], long[100:130]), api.OK)
	is(t, "Rename to itself", d.Rename(long[200:230], long[300:330]), api.OK)
	for _, name := range d.List(long[400:401]) {
		if at := uintptr(unsafe.Pointer(unsafe.StringData(name))); begin <= at && at < begin+uintptr(len(long)) {
			t.Errorf("the name of %d bytes is a piece of what was handed in", len(name))
		}
	}
	lists(t, d, "", long[:30])
}

// R4: numbers that are handed in are not changed, their spare room neither, and it does not matter; nor are they kept.
func TestKeepIsNotChanged(t *testing.T) {
	all := []int{1, 2, -3, 7, 5, 4}
	was := slices.Clone(all)
	for n := range len(all) {
		d, m := stocked(t)
		is(t, "Sync", d.Sync("c"), m.Sync("c"))
		for range 2 {
			cut(t, d, "a")
			m.down = true
			d.Up(all[:n])
			m.Up(slices.Clip(slices.Clone(all[:n])))
			if !slices.Equal(all, was) {
				t.Fatalf("Up of %d numbers left %v", n, all)
			}
			alike(t, "up", d, m)
			for range 3 {
				is(t, "Append", d.Append("a", []byte("56")), m.Append("a", []byte("56")))
			}
		}
	}
}

// R4: what is read is new: what is done to it, and behind it, changes neither the file nor what was read another time.
func TestReadIsNew(t *testing.T) {
	d, m := stocked(t)
	for range 3 {
		for _, name := range []string{"a", "b", "c"} {
			want, _ := m.Read(name)
			first, _ := d.Read(name)
			second, _ := d.Read(name)
			spoil(first[:cap(first)])
			if !bytes.Equal(second, want) {
				t.Errorf("%q: what was read is changed by what is done to another: %q", name, second)
			}
			_ = append(second, "behind it"...)
			has(t, d, name, string(want))
			is(t, "Append", d.Append(name, []byte("x")), m.Append(name, []byte("x")))
			alike(t, "behind", d, m)
		}
		is(t, "Sync", d.Sync("b"), m.Sync("b"))
	}
}

// R4: what was read stays as it is, whatever is done on the drive.
func TestReadStays(t *testing.T) {
	d := made(t, 1000)
	put(t, d, "a", "S", "12", "3")
	var all []string
	var read [][]byte
	look := func() {
		b, _ := d.Read("a")
		read, all = append(read, b), append(all, string(b))
	}
	for n := range 20 {
		look()
		is(t, "Append", d.Append("a", []byte{byte(n)}), api.OK)
		look()
		if n%3 == 0 {
			cut(t, d, "a")
			d.Up([]int{n})
		}
		look()
		if n%5 == 0 {
			is(t, "Sync", d.Sync("a"), api.OK)
		}
		is(t, "Append", d.Append("a", []byte("abc")), api.OK)
	}
	is(t, "Remove", d.Remove("a"), api.OK)
	put(t, d, "a", "anew", "another time")
	for i, b := range read {
		if string(b) != all[i] {
			t.Errorf("what was read as %q is %q later on", all[i], b)
		}
	}
}

// R4: names that were told are new: what is done to the list changes neither the drive nor another list.
func TestListIsNew(t *testing.T) {
	d, m := stocked(t)
	first, second := d.List(""), d.List("")
	first = first[:cap(first)]
	for i := range first {
		first[i] = "spoilt"
	}
	if !slices.Equal(second, m.List("")) {
		t.Errorf("names that were told already are changed: %q", second)
	}
	_ = append(second, "behind")
	alike(t, "behind", d, m)
	is(t, "Remove", d.Remove("b"), api.OK)
	if !slices.Equal(second, []string{"a", "b", "c"}) {
		t.Errorf("names that were told already go with the files: %q", second)
	}
}

// R4: no data, and data of no bytes, are one; so are no numbers, and a list of none.
func TestNilAndEmpty(t *testing.T) {
	d, m := made(t, 10), &model{quota: 10}
	put(t, d, "a", "", "1")
	put(t, m, "a", "", "1")
	is(t, "Append", d.Append("a", []byte{}), m.Append("a", nil))
	cut(t, d, "a")
	m.down = true
	d.Up([]int{2})
	m.Up([]int{2})
	is(t, "Append", d.Append("a", nil), m.Append("a", []byte{}))
	is(t, "Append", d.Append("a", []byte("2")), m.Append("a", []byte("2")))
	alike(t, "pieces of no bytes", d, m)
	cut(t, d, "a")
	m.down = true
	d.Up([]int{1})
	m.Up([]int{})
	alike(t, "up", d, m)
}

// R5: drives stand each for itself, and what one is told is told again by another.
func TestDrivesApart(t *testing.T) {
	d, m := stocked(t)
	other, model := stocked(t)
	for i := range 60 {
		r := chance(int64(i))
		c := anyCall(r)
		if got, want := c.ask(d), c.ask(m); got != want {
			t.Fatalf("%s: %s, not %s", c.what, got, want)
		}
		alike(t, "one", d, m)
		alike(t, "the other, that is told nothing", other, model)
	}
	for i := range 60 {
		anyCall(chance(int64(i))).ask(other)
	}
	alike(t, "the other, told the same", other, m)
}
