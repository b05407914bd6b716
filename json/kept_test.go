package json_test

import (
	"slices"
	"strings"
	"testing"
	"unsafe"

	"pantile/api"
	"pantile/json"
)

// twin is a copy of a value at every depth, and of all room that its lists have.
func twin(v api.Json) api.Json {
	names, kids := v.Names[:cap(v.Names)], v.Kids[:cap(v.Kids)]
	v.Names = slices.Clone(names)[:len(v.Names)]
	all := make([]api.Json, len(kids))
	for i, kid := range kids {
		all[i] = twin(kid)
	}
	v.Kids = all[:len(v.Kids)]
	return v
}

// sameRoom tells whether two values are the same, and all room of their lists.
func sameRoom(a, b api.Json) bool {
	a.Names, a.Kids = a.Names[:cap(a.Names)], a.Kids[:cap(a.Kids)]
	b.Names, b.Kids = b.Names[:len(a.Names)], b.Kids[:len(a.Kids)]
	return a.Kind == b.Kind && a.Text == b.Text && a.Number == b.Number &&
		slices.Equal(a.Names, b.Names) && slices.EqualFunc(a.Kids, b.Kids, sameRoom)
}

// roomy is a value whose lists all have marked room behind.
func roomy(v api.Json) api.Json {
	mark := api.Json{Kind: 77, Text: "room", Number: 77}
	v.Names = append(slices.Clone(v.Names), "room", "more room")[:len(v.Names)]
	all := make([]api.Json, 0, len(v.Kids)+2)
	for _, kid := range v.Kids {
		all = append(all, roomy(kid))
	}
	v.Kids = append(all, mark, mark)[:len(v.Kids)]
	return v
}

// spoilt changes a value at every depth, and in all room of its lists.
func spoilt(v *api.Json) {
	v.Kind, v.Text, v.Number = v.Kind+1, v.Text+"spoilt", v.Number+1
	for i := range v.Names[:cap(v.Names)] {
		v.Names[:cap(v.Names)][i] += "spoilt"
	}
	for i := range v.Kids[:cap(v.Kids)] {
		spoilt(&v.Kids[:cap(v.Kids)][i])
	}
}

// some are values of many kinds, and things that are none.
func some() []api.Json {
	c := chance(44)
	all := odd()
	for range 300 {
		v := c.value(5)
		all = append(all, twin(v))
		spoil(&c, &v)
		all = append(all, v)
	}
	return all
}

// R4: what is handed in is not changed, its spare room neither, and what stands there is not in the answer.
func TestHandedInIsNotChanged(t *testing.T) {
	for _, plain := range some() {
		v := roomy(plain)
		was := twin(v)
		s, e := json.Write(v)
		if want, ok := modelText(plain, 5); ok && (s != want || e != api.OK) || !ok && (s != "" || e != api.ErrArg) {
			t.Errorf("Write(%+v): %q %d", plain, s, e)
		}
		is(t, json.Map(v.Names, v.Kids...), fold(plain.Names, plain.Kids))
		is(t, json.Map(v.Names[:0], v.Kids[:0]...), fold(nil, nil))
		if !sameRoom(v, was) {
			t.Errorf("handed in: %+v, was %+v", v, was)
		}
	}
}

// R4: what is handed in is not kept.
func TestHandedInIsNotKept(t *testing.T) {
	for _, plain := range some() {
		v := roomy(plain)
		made := json.Map(v.Names, v.Kids...)
		s, e := json.Write(v)
		spoilt(&v)
		is(t, made, fold(plain.Names, plain.Kids))
		if again, f := json.Write(plain); s != again || e != f {
			t.Errorf("Write(%+v): %q %d, and then %q %d", plain, s, e, again, f)
		}
	}
}

// R4: each answer is new memory, at every depth, its spare room too.
func TestAnswersAreNewMemory(t *testing.T) {
	for _, plain := range some() {
		handed := roomy(plain)
		was := twin(handed)
		calls := []func() api.Json{
			func() api.Json { return json.Map(handed.Names, handed.Kids...) },
			func() api.Json { return json.Map(handed.Names, handed, handed) },
		}
		if s, ok := modelText(plain, 5); ok {
			calls = append(calls, func() api.Json { v, _ := json.Read(s); return v })
		}
		for _, call := range calls {
			first, second := call(), call()
			want := twin(second)
			spoilt(&first)
			is(t, second, want)
			is(t, call(), want)
			if !sameRoom(handed, was) {
				t.Errorf("handed in: %+v, was %+v", handed, was)
			}
		}
	}
}

// R4: no two lists of one answer are one, though they were handed in as one.
func TestListsOfAnAnswerAreApart(t *testing.T) {
	shared := fold(names("a", "b"), kids(list(text("x"), list(text("y"))), number(1)))
	v := json.Map(shared.Names, shared, shared, list(shared, shared))
	spoilt(&v.Kids[0])
	is(t, v.Kids[1], shared)
	is(t, v.Kids[2].Kids[0], shared)
	spoilt(&v.Kids[2].Kids[0])
	is(t, v.Kids[1], shared)
	is(t, v.Kids[2].Kids[1], shared)
	v.Names[0] = "changed"
	is(t, v.Kids[1], shared)
	read, _ := json.Read(`[{"a":["x"]},{"a":["x"]}]`)
	spoilt(&read.Kids[0])
	is(t, read.Kids[1], fold(names("a"), kids(list(text("x")))))
}

// R4: not even texts are pieces of those that were handed in.
func TestTextsAreNotKept(t *testing.T) {
	long := `["` + strings.Repeat("a", 1000) + `",{"` + strings.Repeat("b", 1000) + `":1}]`
	read, _ := json.Read(long)
	for what, piece := range map[string]string{
		"Read, a text":  read.Kids[0].Text,
		"Read, a name":  read.Kids[1].Names[0],
		"Text":          json.Text(long[2:1002]).Text,
		"Map, a name":   json.Map(names(long[2:1002])).Names[0],
		"Map, a text":   json.Map(nil, text(long[2:1002])).Kids[0].Text,
		"Map, a name 2": json.Map(nil, fold(names(long[2:1002]), nil)).Kids[0].Names[0],
	} {
		begin, at := uintptr(unsafe.Pointer(unsafe.StringData(long))), uintptr(unsafe.Pointer(unsafe.StringData(piece)))
		if len(piece) != 1000 || at >= begin && at < begin+uintptr(len(long)) {
			t.Errorf("%s: %d bytes, a piece of what was handed in", what, len(piece))
		}
	}
}

// R4: nil and empty lists are one, handed in.
func TestNilAndEmptyAreOne(t *testing.T) {
	for _, n := range [][]string{nil, {}, make([]string, 0, 3)} {
		for _, k := range [][]api.Json{nil, {}, make([]api.Json, 0, 3)} {
			is(t, json.Map(n, k...), fold(nil, nil))
			writes(t, fold(n, k), "{}")
			writes(t, api.Json{Kind: api.JsonList, Names: n, Kids: k}, "[]")
			writes(t, api.Json{Kind: api.JsonInt, Names: n, Kids: k}, "0")
			writes(t, api.Json{Kind: api.JsonText, Names: n, Kids: k}, `""`)
		}
	}
}

// R3: fields that a kind does not name are zero in what is read and made.
func TestOtherFieldsAreZero(t *testing.T) {
	for s, want := range map[string]api.Json{`"a"`: text("a"), "7": number(7), "[7]": list(number(7)), `{"a":7}`: fold(names("a"), kids(number(7))), "[]": list(), "{}": fold(nil, nil)} {
		reads(t, s, want)
		reads(t, "["+s+","+s+"]", list(want, want))
		reads(t, `{"x":`+s+"}", fold(names("x"), kids(want)))
	}
}

// R5: a call that was refused changes nothing of the next, however deep it was.
func TestRefusedChangesNothing(t *testing.T) {
	v, s := nested("LMLML", number(1)), nestedText("LMLML", "1")
	for range 20 {
		refusesText(t, "[[[[[[1]]]]]]", api.ErrForm)
		refusesText(t, `[[[[{"a":"`, api.ErrForm)
		refusesText(t, strings.Repeat("[", 65537), api.ErrLong)
		refusesValue(t, nested("LMLMLM", number(1)))
		refusesValue(t, nested("LMLML", number(-1)))
		both(t, v, s)
	}
}
