package kv_test

import (
	"slices"
	"strconv"
	"strings"
	"testing"

	"pantile/api"
	"pantile/drive"
)

func wrongWrites() []api.Write {
	return []api.Write{
		{},
		set("", "v"),
		gone(""),
		set(strings.Repeat("k", 201), "v"),
		gone(strings.Repeat("k", 201)),
		set(strings.Repeat("\x00", 5000), ""),
		set("a", great[:mostOf+1]),
		set("a", great),
		{Key: "a", Value: "v", Gone: true},
		{Key: "none", Value: "\x00", Gone: true},
		{Key: "a", Value: great[:mostOf+1], Gone: true},
		{Value: "v", Gone: true},
	}
}

// P14.2: a batch in which a write may not be is refused, wherever that stands, and nothing of it is done.
func TestApplyRefusesWrites(t *testing.T) {
	s, d := fresh(t, roomy)
	m := model{}.with(some(3, 4)...)
	is(t, "Apply", s.Apply(some(3, 4)), api.OK)
	was := lies(d)
	for i, w := range wrongWrites() {
		for _, batch := range [][]api.Write{{w}, {w, set("new", "v")}, {set("new", "v"), gone("key0"), w}, {set("key1", "other"), w, set("new", "v")}, append(some(40, 3), w), {w, w}} {
			is(t, "write "+strconv.Itoa(i), s.Apply(batch), api.ErrArg)
		}
		alike(t, "refused", s, m)
	}
	if lies(d) != was || !s.Alive() {
		t.Error("what was refused has done something")
	}
	alike(t, "opened again", opened(t, d, "log"), m)
	is(t, "Apply behind", s.Apply(some(5, 1)), api.OK)
	alike(t, "behind", opened(t, d, "log"), m.with(some(5, 1)...))
}

// P14.2, R2: what may not be is told ahead of want of room, and both ahead of the power that would go.
func TestApplyOrder(t *testing.T) {
	for _, quota := range []int{0, 30} {
		s, d := fresh(t, quota)
		d.Arm(0)
		for _, w := range wrongWrites() {
			is(t, "no room, and a wrong write", s.Apply(append(some(10, 10), w)), api.ErrArg)
		}
		is(t, "no room", s.Apply(some(10, 10)), api.ErrFull)
		is(t, "nothing", s.Apply(nil), api.OK)
		if !s.Alive() || d.Deeds() != 2 {
			t.Errorf("alive %v, deeds %d", s.Alive(), d.Deeds())
		}
	}
}

// P14.2: keys of 1 and of 200 bytes, with any bytes in them, and values of none and of MaxValue.
func TestApplyEdges(t *testing.T) {
	s, d := fresh(t, roomy)
	var batch []api.Write
	for c := range 256 {
		one := string([]byte{byte(c)})
		batch = append(batch, set(one, ""), set(strings.Repeat(one, 200), one), set("\x00"+one+"\xff", one+"\x00"))
	}
	batch = append(batch, set("great", strings.Repeat("\x00\x01\xfe\xff", mostOf/4)), set("greater by none", strings.Repeat("v", mostOf-1)), set(strings.Repeat("k", 199), strings.Repeat("g", mostOf)))
	m := model{}.with(batch...)
	is(t, "Apply", s.Apply(batch), api.OK)
	for range 2 {
		alike(t, "edges", s, m)
		s = opened(t, d, "log")
		is(t, "Compact", s.Compact(), api.OK)
	}
	for _, w := range batch[:300] {
		is(t, "Apply", s.Apply([]api.Write{gone(w.Key)}), api.OK)
		m = m.with(gone(w.Key))
	}
	alike(t, "edges gone", s, m)
	alike(t, "edges gone, opened again", opened(t, d, "log"), m)
}

// P14.2: a batch's writes are done one behind the other.
func TestApplyInOrder(t *testing.T) {
	for i, batch := range [][]api.Write{
		{set("b", "2"), set("a", "1"), gone("b")},
		{set("a", "1"), set("a", "2"), set("a", "3")},
		{set("a", "1"), gone("a")},
		{gone("a"), set("a", "1")},
		{gone("a"), set("a", "1"), gone("a")},
		{gone("a"), gone("a")},
		{gone("none"), gone("none")},
		{set("a", ""), set("aa", "")},
		{set("old", ""), set("older", "new")},
		{gone("old"), set("old", "new"), gone("older"), set("older", ""), gone("older")},
		{set("old", "same"), set("older", "same")},
	} {
		s, d := fresh(t, roomy)
		m := model{}.with(set("old", "1"), set("older", "2"), set("a", "0"))
		is(t, "Apply", s.Apply(m.writes()), api.OK)
		for range 2 {
			is(t, "Apply "+strconv.Itoa(i), s.Apply(batch), api.OK)
			m = m.with(batch...)
			alike(t, "batch "+strconv.Itoa(i), s, m)
			alike(t, "batch "+strconv.Itoa(i)+", opened again", opened(t, d, "log"), m)
		}
	}
}

// P14.2: many writes of one key take up no more room than the last of them.
func TestApplyManyOfOneKey(t *testing.T) {
	var batch []api.Write
	for i := range 3000 {
		batch = append(batch, set("a", strings.Repeat("v", i%50)), gone("b"), set("b", strconv.Itoa(i)))
	}
	s, d := fresh(t, 1000)
	is(t, "Apply", s.Apply(batch), api.OK)
	alike(t, "many", s, model{{"a", strings.Repeat("v", 49)}, {"b", "2999"}})
	other, x := fresh(t, 1000)
	is(t, "Apply", other.Apply([]api.Write{set("a", strings.Repeat("v", 49)), set("b", "2999")}), api.OK)
	if d.Used() != x.Used() {
		t.Errorf("%d bytes, not %d", d.Used(), x.Used())
	}
	alike(t, "many, opened again", opened(t, d, "log"), model{{"a", strings.Repeat("v", 49)}, {"b", "2999"}})
}

// P14.2: a batch without writes is OK, and does nothing, whether there is room or not.
func TestApplyNothing(t *testing.T) {
	for _, first := range [][]api.Write{nil, some(3, 3)} {
		s, d := fresh(t, roomy)
		is(t, "Apply", s.Apply(first), api.OK)
		is(t, "Quota", d.Quota(0), api.OK)
		was := lies(d)
		is(t, "nil", s.Apply(nil), api.OK)
		is(t, "empty", s.Apply([]api.Write{}), api.OK)
		alike(t, "nothing", s, model{}.with(first...))
		if lies(d) != was {
			t.Error("nothing has done something")
		}
		cut(t, d)
		is(t, "nil, no power", s.Apply(nil), api.ErrDown)
	}
}

// batches are of many shapes.
func batches() [][]api.Write {
	return [][]api.Write{
		{set("a", "1")},
		{set("a", "")},
		{gone("a")},
		{gone("none")},
		{gone("key0"), gone("key1")},
		{set(strings.Repeat("k", 200), strings.Repeat("v", 300))},
		{set("a", strings.Repeat("v", 70000))},
		some(3, 1),
		some(100, 20),
		append(some(10, 5), some(10, 6)...),
	}
}

// P14.2: with room to the last byte a batch is done; with one byte less it is refused: nothing is changed, and it goes on.
func TestApplyRoom(t *testing.T) {
	for i, batch := range batches() {
		for _, first := range [][]api.Write{nil, {set("a", "0")}, some(20, 7)} {
			what := "batch " + strconv.Itoa(i)
			one, x := fresh(t, roomy)
			is(t, what, one.Apply(first), api.OK)
			is(t, what, one.Apply(batch), api.OK)
			m := model{}.with(first...)
			s, d := fresh(t, roomy)
			is(t, what, s.Apply(first), api.OK)
			is(t, what, d.Quota(x.Used()-1), api.OK)
			was := lies(d)
			for range 2 {
				is(t, what+": one byte less", s.Apply(batch), api.ErrFull)
			}
			if lies(d) != was || !s.Alive() {
				t.Errorf("%s: what was refused has done something", what)
			}
			alike(t, what, s, m)
			alike(t, what, opened(t, d, "log"), m)
			is(t, what, d.Quota(x.Used()), api.OK)
			is(t, what+": to the last byte", s.Apply(batch), api.OK)
			alike(t, what, s, m.with(batch...))
			alike(t, what, opened(t, d, "log"), m.with(batch...))
		}
	}
}

// P14.2: a batch for which no drive has room, and one behind a quota that is less than what is used.
func TestApplyNoRoomAtAll(t *testing.T) {
	s, d := fresh(t, roomy)
	is(t, "17 of the greatest", s.Apply(tooMuch()), api.ErrFull)
	alike(t, "nothing", s, nil)
	is(t, "Apply", s.Apply(tooMuch()[:15]), api.OK)
	is(t, "one more", s.Apply(tooMuch()[15:16]), api.ErrFull)
	is(t, "Quota", d.Quota(10), api.OK)
	is(t, "gone", s.Apply([]api.Write{gone("key0")}), api.ErrFull)
	alike(t, "as it was", s, model{}.with(tooMuch()[:15]...))
	alike(t, "as it was", opened(t, d, "log"), model{}.with(tooMuch()[:15]...))
}

// What the document says of room: on an empty drive for 1000 bytes three keys and values of one byte.
func TestApplyFirstBatch(t *testing.T) {
	s, d := fresh(t, 1000)
	is(t, "Apply", s.Apply([]api.Write{set("a", "1"), set("b", "2"), set("c", "3")}), api.OK)
	if !slices.Equal(opened(t, d, "log").Keys(""), []string{"a", "b", "c"}) {
		t.Errorf("keys %q", s.Keys(""))
	}
}

// The chapter's example.
func TestExample(t *testing.T) {
	d := drive.New(1000)
	s := opened(t, d, "example")
	is(t, "Apply", s.Apply([]api.Write{set("a", "1"), set("b", "2"), gone("a")}), api.OK)
	if got := s.Keys(""); !slices.Equal(got, []string{"b"}) {
		t.Errorf("keys %q", got)
	}
}
