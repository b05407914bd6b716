package json_test

import (
	"math"
	"slices"
	"strings"
	"testing"

	"pantile/api"
	"pantile/json"
)

// P6.1: texts of values that are told by hand.
func TestKnownTexts(t *testing.T) {
	both(t, text(""), `""`)
	both(t, text("a"), `"a"`)
	both(t, text("a b"), `"a b"`)
	both(t, text(" "), `" "`)
	both(t, text(`"`), `"\""`)
	both(t, text(`\`), `"\\"`)
	both(t, text(`\"`), `"\\\""`)
	both(t, text(`\\`), `"\\\\"`)
	both(t, text("/"), `"/"`)
	both(t, text(`\/`), `"\\/"`)
	both(t, text(`\n\u0041`), `"\\n\\u0041"`)
	both(t, text("[1,{}]:"), `"[1,{}]:"`)
	both(t, text("<a>&'b'"), `"<a>&'b'"`)
	both(t, number(0), "0")
	both(t, number(7), "7")
	both(t, number(10), "10")
	both(t, number(1700000000000), "1700000000000")
	both(t, list(), "[]")
	both(t, list(number(1)), "[1]")
	both(t, list(number(0), text("b"), list(), fold(nil, nil)), `[0,"b",[],{}]`)
	both(t, list(number(1), number(1), number(1)), "[1,1,1]")
	both(t, list(text(""), text("")), `["",""]`)
	both(t, fold(nil, nil), "{}")
	both(t, fold(names("a"), kids(number(1))), `{"a":1}`)
	both(t, fold(names(""), kids(text(""))), `{"":""}`)
	both(t, fold(names(`"`, `\`, "/", " "), kids(number(1), number(2), number(3), number(4))), `{"\"":1,"\\":2,"/":3," ":4}`)
	both(t, fold(names("chain"), kids(list(text("aGk=")))), `{"chain":["aGk="]}`)
	both(t, fold(names("a", "b"), kids(list(number(1), text("x")), fold(names("a"), kids(fold(nil, nil))))), `{"a":[1,"x"],"b":{"a":{}}}`)
}

// P6.1: names stand in the map's order, not in that of the alphabet.
func TestNamesInTheirOrder(t *testing.T) {
	all := names("tree_size", "b", "timestamp", "", "a", "Z", "~", "aa", "B", "0")
	for range len(all) {
		all = append(all[1:], all[0])
		var values []api.Json
		var want []string
		for i, name := range all {
			values = append(values, number(i))
			want = append(want, `"`+name+`":`+string(rune('0'+i)))
		}
		for range 5 {
			both(t, fold(slices.Clone(all), values), "{"+strings.Join(want, ",")+"}")
		}
	}
}

// P6.1: each byte alone, among others and in a name: 32 to 126 are a text's.
func TestEachByteOfAText(t *testing.T) {
	for n := range 256 {
		for _, around := range []string{"", "a", `\`, `"`, "\n", "\x7f"} {
			s := around + string([]byte{byte(n)}) + around
			right := n >= 32 && n <= 126 && around != "\n" && around != "\x7f"
			for _, v := range []api.Json{text(s), list(number(1), text(s)), fold(names(s), kids(number(1))), fold(names("b", s+s), kids(number(1), list()))} {
				want, ok := modelText(v, 5)
				if ok != right {
					t.Fatalf("the model at %q", s)
				}
				if right {
					both(t, v, want)
				} else {
					refusesValue(t, v)
				}
			}
		}
	}
	for _, s := range []string{"é", "日本", "\U0001F600", "\u0080", "\u00a0", "\u2028", "\xff\xfe", "\xc3", "a\x00", "\x1f", "\x7f", "\t", "\r\n", "a\nb"} {
		refusesValue(t, text(s))
		refusesValue(t, fold(names(s), kids(number(1))))
	}
}

// P6.1: integers at their edges.
func TestEdgesOfIntegers(t *testing.T) {
	both(t, number(most-1), "9007199254740991")
	both(t, number(most), "9007199254740992")
	for _, n := range []int{-1, -7, most + 1, most + 2, most * 2, -most, math.MaxInt, math.MinInt, math.MaxInt32 << 30, math.MinInt + 1} {
		refusesValue(t, number(n))
		refusesValue(t, list(number(n)))
		refusesValue(t, list(number(1), list(number(n)), number(1)))
		refusesValue(t, fold(names("a"), kids(number(n))))
	}
}

// P6.1: at most five lists and maps stand in one another, however they are mixed, and what is at the innermost place.
func TestFiveInOneAnother(t *testing.T) {
	leaves := map[string]api.Json{"1": number(1), `""`: text(""), "[]": list(), "{}": fold(nil, nil), "[1,2]": list(number(1), number(2))}
	for many := range 9 {
		for _, kinds := range nests(many) {
			for inside, v := range leaves {
				all := many
				if v.Kind == api.JsonList || v.Kind == api.JsonMap {
					all++
				}
				if s := nestedText(kinds, inside); all <= 5 {
					both(t, nested(kinds, v), s)
				} else {
					refusesValue(t, nested(kinds, v))
					refusesText(t, s, api.ErrForm)
				}
			}
		}
	}
}

// P6.1: what stands beside one another is no deeper for it, many times over; what is one too deep beside what is not is refused.
func TestBesideOneAnother(t *testing.T) {
	four, deep := nested("LMLM", number(1)), nestedText("LMLM", "1")
	for many := 1; many < 30; many++ {
		var all []api.Json
		var named []string
		for i := range many {
			all = append(all, four)
			named = append(named, strings.Repeat("n", i))
		}
		v := list(all...)
		m := fold(named, all)
		both(t, v, "["+strings.Repeat(deep+",", many-1)+deep+"]")
		if s, ok := modelText(m, 5); ok {
			both(t, m, s)
		}
		for i := range many {
			one := slices.Clone(all)
			one[i] = list(four)
			refusesValue(t, list(one...))
			refusesValue(t, fold(named, one))
			refusesText(t, "["+strings.Repeat(deep+",", i)+"["+deep+"]"+strings.Repeat(","+deep, many-1-i)+"]", api.ErrForm)
		}
	}
}

// P6.1: a map has as many kids as names, and no two names that are the same.
func TestNamesAndKids(t *testing.T) {
	for _, v := range []api.Json{
		fold(names("a"), nil),
		fold(nil, kids(number(1))),
		fold(names("a", "b"), kids(number(1))),
		fold(names("a"), kids(number(1), number(2))),
		fold(names("a", "b", "c"), kids(number(1), number(2))),
		fold(names("a", "a"), kids(number(1), number(1))),
		fold(names("a", "a"), kids(number(1))),
		fold(names("", ""), kids(number(1), number(2))),
		fold(names("a", "b", "a"), kids(number(1), number(2), number(3))),
		fold(names("a", "b", "c", "d", "b"), kids(number(1), number(2), number(3), number(4), number(5))),
		fold(names("/", "/"), kids(number(1), number(2))),
		fold(names(`"`, `\`, `"`), kids(number(1), number(2), number(3))),
	} {
		refusesValue(t, v)
		refusesValue(t, list(v))
		refusesValue(t, list(number(1), v, number(2)))
		refusesValue(t, fold(names("x"), kids(v)))
	}
	// In maps that stand beside or in one another names may be the same.
	both(t, fold(names("a", "b"), kids(fold(names("a"), kids(number(1))), fold(names("a"), kids(number(2))))), `{"a":{"a":1},"b":{"a":2}}`)
	both(t, list(fold(names("a"), kids(text("a"))), fold(names("a"), kids(text("a")))), `[{"a":"a"},{"a":"a"}]`)
	both(t, fold(names("a", "A", "a ", " a", "aa"), kids(number(1), number(2), number(3), number(4), number(5))), `{"a":1,"A":2,"a ":3," a":4,"aa":5}`)
}

// P6.1: fields that a kind does not name must be zero; nil and empty lists are one.
func TestFieldsThatMustBeZero(t *testing.T) {
	for _, v := range []api.Json{
		{Kind: api.JsonText, Text: "a", Number: 1},
		{Kind: api.JsonText, Text: "a", Number: -1},
		{Kind: api.JsonText, Text: "a", Names: names("")},
		{Kind: api.JsonText, Text: "a", Kids: kids(number(1))},
		{Kind: api.JsonText, Kids: kids(api.Json{})},
		{Kind: api.JsonInt, Number: 1, Text: "a"},
		{Kind: api.JsonInt, Number: 1, Text: " "},
		{Kind: api.JsonInt, Number: 1, Names: names("")},
		{Kind: api.JsonInt, Number: 1, Kids: kids(number(1))},
		{Kind: api.JsonList, Text: "a"},
		{Kind: api.JsonList, Number: 1},
		{Kind: api.JsonList, Names: names("")},
		{Kind: api.JsonList, Names: names("a"), Kids: kids(number(1))},
		{Kind: api.JsonList, Kids: kids(number(1)), Number: most},
		{Kind: api.JsonMap, Text: "a"},
		{Kind: api.JsonMap, Number: 1},
		{Kind: api.JsonMap, Number: -1, Names: names("a"), Kids: kids(number(1))},
		{Kind: api.JsonMap, Text: "a", Names: names("a"), Kids: kids(number(1))},
	} {
		refusesValue(t, v)
		refusesValue(t, list(v))
		refusesValue(t, nested("LMLM", v))
		refusesValue(t, fold(names("a", "b"), kids(number(1), v)))
	}
	none, nothing := make([]string, 0, 4), make([]api.Json, 0, 4)
	both(t, api.Json{Kind: api.JsonText, Text: "a", Names: none, Kids: nothing}, `"a"`)
	both(t, api.Json{Kind: api.JsonInt, Number: 1, Names: none, Kids: nothing}, "1")
	both(t, api.Json{Kind: api.JsonList, Names: none, Kids: nothing}, "[]")
	both(t, api.Json{Kind: api.JsonMap, Names: none, Kids: nothing}, "{}")
	both(t, api.Json{Kind: api.JsonMap, Names: none}, "{}")
	both(t, api.Json{Kind: api.JsonMap, Kids: nothing}, "{}")
}

// P6.1: what is of another kind is no value, whatever else it has.
func TestOtherKinds(t *testing.T) {
	for _, kind := range []int{0, -1, 5, 6, 100, math.MaxInt, math.MinInt, 1 << 32, 1<<32 + 1, -4, 256 + api.JsonText} {
		for _, v := range []api.Json{{}, {Text: "a"}, {Number: 1}, {Kids: kids(number(1))}, {Names: names("a"), Kids: kids(number(1))}} {
			v.Kind = kind
			refusesValue(t, v)
			refusesValue(t, list(v))
			refusesValue(t, fold(names("a"), kids(v)))
		}
	}
}

// P6.1, P6.3: values of all kinds, and ones with a fault at some place, by the model.
func TestValuesByTheModel(t *testing.T) {
	c := chance(6)
	right, wrong := 0, 0
	for range 20000 {
		v := c.value(5)
		want, ok := modelText(v, 5)
		if !ok {
			t.Fatalf("the model at %+v", v)
		}
		both(t, v, want)
		spoil(&c, &v)
		if want, ok := modelText(v, 5); ok {
			right++
			both(t, v, want)
		} else {
			wrong++
			refusesValue(t, v)
		}
	}
	if right < 1000 || wrong < 1000 {
		t.Errorf("%d right, %d wrong", right, wrong)
	}
}

// spoil changes something of a value, at some depth.
func spoil(c *chance, v *api.Json) {
	if len(v.Kids) > 0 && c.below(3) > 0 {
		spoil(c, &v.Kids[c.below(len(v.Kids))])
		return
	}
	switch c.below(8) {
	case 0:
		v.Kind = c.below(7) - 1
	case 1:
		v.Text += string([]byte{byte(c.below(256))})
	case 2:
		v.Number += c.below(3) - 1
	case 3:
		v.Names = append(v.Names, c.text())
	case 4:
		v.Kids = append(v.Kids, c.value(1))
	case 5:
		v.Names = append(v.Names, c.text())
		v.Kids = append(v.Kids, c.value(1))
	case 6:
		*v = list(*v)
	case 7:
		*v = fold(names("n"), kids(*v))
	}
}

// P6.1: what is too long to be read is written all the same.
func TestLongTextsAreWritten(t *testing.T) {
	for _, n := range []int{65533, 65534, 65535, 65536, 100000, 1 << 20} {
		s := strings.Repeat("a", n)
		writes(t, text(s), `"`+s+`"`)
		writes(t, list(text(s), text(s)), `["`+s+`","`+s+`"]`)
		writes(t, fold(names(s), kids(number(1))), `{"`+s+`":1}`)
		refusesValue(t, text(s+"\n"))
	}
	long := list(slices.Repeat(kids(number(1)), 50000)...)
	writes(t, long, "["+strings.Repeat("1,", 49999)+"1]")
	var many api.Json
	many.Kind = api.JsonMap
	for i := range 50000 {
		many.Names = append(many.Names, strings.Repeat("a", i%7)+string(rune('b'+i%20))+strings.Repeat("z", i/140))
		many.Kids = append(many.Kids, number(i))
	}
	if s, e := json.Write(many); e != api.OK || len(s) < 50000*8 {
		t.Errorf("%d bytes, %d", len(s), e)
	}
	many.Names[49999] = many.Names[0]
	refusesValue(t, many)
}

// P6.1, R1: a value that stands in itself is too deep, and is refused at its end.
func TestValuesThatStandInThemselves(t *testing.T) {
	for _, kind := range []int{api.JsonList, api.JsonMap} {
		all := make([]api.Json, 5)
		for i := range all {
			all[i] = number(i)
		}
		for i := range all {
			within := slices.Clone(all)
			within[i] = api.Json{Kind: kind, Kids: within}
			v := api.Json{Kind: kind, Kids: within}
			if kind == api.JsonMap {
				v.Names = names("a", "b", "c", "d", "e")
				within[i].Names = v.Names
			}
			refusesValue(t, v)
			refusesValue(t, list(v))
		}
	}
}
