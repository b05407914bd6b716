package json_test

import (
	"math"
	"strings"
	"testing"

	"pantile/api"
	"pantile/json"
)

// is looks at a value that was made.
func is(t *testing.T, got, want api.Json) {
	t.Helper()
	if !equal(got, want) {
		t.Errorf("made: %+v, not %+v", got, want)
	}
}

// odd are values, and things that are none.
func odd() []api.Json {
	return kids(
		api.Json{}, text(""), text("a"), text("\n\x7f\xff"), number(0), number(-1), number(math.MinInt), number(most), list(), list(number(1)), fold(nil, nil),
		api.Json{Kind: 5}, api.Json{Kind: -1, Text: "a", Number: 3, Names: names("b"), Kids: kids(number(4))},
		api.Json{Kind: api.JsonText, Text: "a", Number: 1, Names: names("a", "a"), Kids: kids(api.Json{})},
		api.Json{Names: names("", ""), Kids: kids(text("\n"), list(list()))},
		fold(names("a"), nil), fold(nil, kids(number(1))), nested("LMLMLMLM", number(1)),
	)
}

// P6.2: values that are made, and what is written of them.
func TestValuesThatAreMade(t *testing.T) {
	is(t, json.Text("a"), text("a"))
	is(t, json.Int(7), number(7))
	is(t, json.Map(nil), fold(nil, nil))
	is(t, json.Map(names("a"), json.Int(1)), fold(names("a"), kids(number(1))))
	v := json.Map(names("b", "a"), json.Text("x"), json.Map(names("c"), json.Int(0)))
	is(t, v, fold(names("b", "a"), kids(text("x"), fold(names("c"), kids(number(0))))))
	writes(t, v, `{"b":"x","a":{"c":0}}`)
	writes(t, json.Text(`a"b`), `"a\"b"`)
	writes(t, json.Int(0), "0")
	writes(t, json.Map(nil), "{}")
	writes(t, json.Map(names("l", "m"), list(json.Int(1), json.Text("")), json.Map([]string{})), `{"l":[1,""],"m":{}}`)
}

// P6.2: texts and integers are not looked at.
func TestTextsAndIntegersAsTheyAre(t *testing.T) {
	for _, s := range []string{"", " ", "\n", "\x00", "\x1f", "\x7f", "\xff\xfe", "é", `"\/`, "[1]", strings.Repeat("a", 100000)} {
		is(t, json.Text(s), text(s))
	}
	for n := range 256 {
		is(t, json.Text(string([]byte{byte(n)})), text(string([]byte{byte(n)})))
	}
	for _, n := range []int{0, 1, -1, most - 1, most, most + 1, math.MaxInt, math.MinInt, -most} {
		is(t, json.Int(n), number(n))
	}
	refusesValue(t, json.Text("\n"))
	refusesValue(t, json.Int(-1))
	refusesValue(t, json.Int(most+1))
}

// P6.2: neither names nor kids are looked at, nor how many they are, nor how deep.
func TestNamesAndKidsAsTheyAre(t *testing.T) {
	for _, n := range [][]string{nil, names("a"), names("a", "b"), names("a", "a"), names("", "", ""), names("\n", "é", "\xff"), names("b", "a", "b", "a")} {
		is(t, json.Map(n), fold(n, nil))
		is(t, json.Map(n, odd()...), fold(n, odd()))
		for _, v := range odd() {
			is(t, json.Map(n, v), fold(n, kids(v)))
			is(t, json.Map(n, v, v), fold(n, kids(v, v)))
			is(t, json.Map(n, json.Map(n, json.Map(n, v), v)), fold(n, kids(fold(n, kids(fold(n, kids(v)), v)))))
		}
	}
	refusesValue(t, json.Map(names("a")))
	refusesValue(t, json.Map(nil, json.Int(1)))
	refusesValue(t, json.Map(names("a", "a"), json.Int(1), json.Int(2)))
	refusesValue(t, json.Map(names("\n"), json.Int(1)))
}

// P6.2, R1: kids may be far deeper than a value's, and many.
func TestDeepKids(t *testing.T) {
	v, want := json.Int(1), number(1)
	for range 12 {
		v = json.Map(names("a", "a"), v, json.Int(2))
		want = fold(names("a", "a"), kids(want, number(2)))
	}
	is(t, v, want)
	const deep = 300000
	chain := number(7)
	for range deep {
		chain = list(chain)
	}
	at := json.Map(nil, chain).Kids[0]
	for range deep {
		if at.Kind != api.JsonList || len(at.Kids) != 1 {
			t.Fatalf("a list: kind %d, %d kids", at.Kind, len(at.Kids))
		}
		at = at.Kids[0]
	}
	is(t, at, number(7))
	many := make([]api.Json, 100000)
	for i := range many {
		many[i] = number(i)
	}
	is(t, json.Map(nil, many...), fold(nil, many))
}

// P6.2, R1, R4: kids that stand in themselves are taken as they are, too, and that ends.
func TestKidsThatStandInThemselves(t *testing.T) {
	round := kids(text("a"), list(), number(3))
	round[1].Kids = round
	pair := kids(list(), list(), number(5))
	other := kids(text("b"), list())
	pair[0].Kids, pair[1].Kids, other[1].Kids = pair[1:], other, pair
	first := kids(list(), text("c"), number(6))
	first[0].Kids, first[2].Kids = first[:1], first[:2]
	for what, handed := range map[string][]api.Json{"its first part in it": first, "round": round, "a part of it": round[1:], "two of them": pair, "the other one": other, "many": append(odd(), list(round...), list(pair...), list(pair...))} {
		v := json.Map(names("n"), handed...)
		if !equalTo(v.Kids, handed, 12) {
			t.Errorf("%s: not the same", what)
		}
		refusesValue(t, v)
	}
	v := json.Map(nil, round...)
	round[0].Text, round[2].Number = "changed", 4
	for at := range 50 {
		if len(v.Kids) != 3 || v.Kids[0].Text != "a" || v.Kids[2].Number != 3 {
			t.Fatalf("%d deep: what was handed in is kept", at)
		}
		v = v.Kids[1]
	}
}

// equalTo tells whether lists are the same so many levels deep.
func equalTo(a, b []api.Json, deep int) bool {
	if deep == 0 || len(a) != len(b) {
		return len(a) == len(b)
	}
	for i := range a {
		one, other := a[i], b[i]
		one.Kids, other.Kids = nil, nil
		if !equal(one, other) || !equalTo(a[i].Kids, b[i].Kids, deep-1) {
			return false
		}
	}
	return true
}
