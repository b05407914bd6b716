package text_test

import (
	"slices"
	"strings"
	"testing"

	"pantile/api"
	"pantile/text"
)

// p is a name and its value.
func p(name, value string) api.Pair { return api.Pair{Name: name, Value: value} }

// P7.2: queries that are known.
func TestKnownQueries(t *testing.T) {
	long, name := strings.Repeat("v", 100), strings.Repeat("n", 20)
	for s, want := range map[string][]api.Pair{
		"":                               nil,
		"a=":                             {p("a", "")},
		"a=1":                            {p("a", "1")},
		"_=_":                            {p("_", "_")},
		"z=1&a=2":                        {p("z", "1"), p("a", "2")},
		"a=2&z=1":                        {p("a", "2"), p("z", "1")},
		"a=&b=&c=":                       {p("a", ""), p("b", ""), p("c", "")},
		"a=1&aa=2&a_=3":                  {p("a", "1"), p("aa", "2"), p("a_", "3")},
		"a==":                            {p("a", "=")},
		"a=b=c":                          {p("a", "b=c")},
		"a=a=1&b=a=1":                    {p("a", "a=1"), p("b", "a=1")},
		"a=+":                            {p("a", "+")},
		"a= b\n\x00;?#/":                 {p("a", " b\n\x00;?#/")},
		"a=\xff\x80é":                    {p("a", "\xff\x80é")},
		"a=%2B":                          {p("a", "+")},
		"a=%2b":                          {p("a", "+")},
		"a=%26":                          {p("a", "&")},
		"a=%26b=1&b=%26":                 {p("a", "&b=1"), p("b", "&")},
		"a=%25":                          {p("a", "%")},
		"a=%2541":                        {p("a", "%41")},
		"a=%25%34%31":                    {p("a", "%41")},
		"a=%00%ff%Ff%fF%FF":              {p("a", "\x00\xff\xff\xff\xff")},
		"a=%aF%Af%09%90":                 {p("a", "\xaf\xaf\x09\x90")},
		"a=x%41y%42z":                    {p("a", "xAyBz")},
		"a=%41%41":                       {p("a", "AA")},
		"a=%3D&b=%3d":                    {p("a", "="), p("b", "=")},
		"hash=a%2Bb%3d&tree_size=5&x=":   {p("hash", "a+b="), p("tree_size", "5"), p("x", "")},
		"first=0&second=9":               {p("first", "0"), p("second", "9")},
		name + "=" + long:                {p(name, long)},
		name + "=" + long + "&n=" + long: {p(name, long), p("n", long)},
	} {
		if l, e := text.Query(s); !slices.Equal(l, want) || e != api.OK {
			t.Errorf("Query(%q): %q %d, not %q", s, l, e, want)
		}
		takesEach(t, asks, s)
	}
}

// P7.2: names of 1 to 20 bytes, of a to z and `_` alone.
func TestNamesOfQueries(t *testing.T) {
	for n := range 300 {
		for _, letter := range []string{"a", "z", "_"} {
			if name := strings.Repeat(letter, n); asks(t, name+"=1") != (1 <= n && n <= 20) || asks(t, "b=&"+name+"=1") != (1 <= n && n <= 20) {
				t.Errorf("a name of %d bytes", n)
			}
		}
	}
	right := 0
	for n := range 256 {
		c := string([]byte{byte(n)})
		if asks(t, c+"=1") {
			right++
		}
		asks(t, "a"+c+"=1")
		asks(t, c+"a=1")
		asks(t, "a=1&b"+c+"b=1")
	}
	if right != 27 {
		t.Errorf("%d names of one byte", right)
	}
	refusesEach(t, asks,
		"=", "=1", "a=1&=", "=&a=1", "A=1", "aB=1", "a1=1", "1=1", "a-b=1", "a.b=1", " a=1", "a =1", "a+b=1", "é=1", "aé=1", "\xe9=1", "%61=1", "a%62=1", "ａ=1", "\x00=1", "a\n=1",
		strings.Repeat("a", 21)+"=", strings.Repeat("ab", 1000)+"=1",
	)
}

// P7.2: values of any bytes but `&`, at most 100 as they stand in the query.
func TestValuesOfQueries(t *testing.T) {
	for n := range 300 {
		for _, one := range []string{"b", "=", "\xff", "\x00"} {
			if asks(t, "a="+strings.Repeat(one, n)) != (n <= 100) || asks(t, "b=2&a="+strings.Repeat(one, n)+"&c=1") != (n <= 100) {
				t.Errorf("a value of %d bytes", n)
			}
		}
		if asks(t, "a="+strings.Repeat("é", n)) != (n <= 50) {
			t.Errorf("a value of %d letters of two bytes", n)
		}
		if asks(t, "a="+strings.Repeat("%41", n)) != (n <= 33) {
			t.Errorf("a value of %d escapes", n)
		}
	}
	takesEach(t, asks, "a="+strings.Repeat("%41", 33)+"b", "a=b"+strings.Repeat("%aF", 33))
	refusesEach(t, asks, "a="+strings.Repeat("%41", 33)+"bb", "a="+strings.Repeat("b", 98)+"%41", "a="+strings.Repeat("b", 1<<20))
	for n := range 256 {
		if c := string([]byte{byte(n)}); c != "&" && c != "%" {
			takesEach(t, asks, "a="+c, "a="+c+c+"&b="+c, "a=%41"+c, "a="+c+"%41")
		}
	}
}

// P7.2: `%` with two digits of either case is that byte, and without them it is refused.
func TestEscapes(t *testing.T) {
	right := 0
	for n := range 1 << 16 {
		two := string([]byte{byte(n >> 8), byte(n)})
		if asks(t, "a=%"+two) {
			right++
		}
		asks(t, "a=b%"+two+"c&d=%"+two)
	}
	// 22 digits of either case, twice.
	if right != 22*22 {
		t.Errorf("%d escapes", right)
	}
	refusesEach(t, asks,
		"a=%", "a=%%", "a=%%%", "a=%2", "a=2%", "a=22%", "a=%2&b=2", "a=%&b=22", "a=%2%22", "a=%%22", "a=%22%", "a=%22%2", "a=%g0", "a=%0g", "a=%G0", "a=%0G", "a=% 2", "a=%2 ", "a=%+2", "a=%-2", "a=%0x", "a=%0x2b",
		"a=%\x00\x00", "a=%\xff\xff", "a=%é", "a=%u002b", "a=%::", "a=%//", "a=%@@", "a=%``", "a=b&c=%", "a=%&c=b", "a=%2=", "a=%=2", "%=a", "a=1&%", "%", "%61", "%61=%61",
	)
}

// P7.2: no name twice, wherever the two stand.
func TestNamesTwice(t *testing.T) {
	refusesEach(t, asks, "a=1&a=1", "a=1&a=2", "a=&a=", "a=1&b=2&a=3", "b=2&a=1&a=1", "a=1&a=1&b=2", "_=1&_=1", "a=1&b=1&c=1&d=1&b=1", "a=1&a=1&a=1")
	names := strings.Fields("a b c d e f g h i j ab ba aa aaa aaaa _ __ a_ _a z zz zzz")
	for i := range names {
		for j := range names {
			all := slices.Clone(names)
			all[i] = names[j]
			if asks(t, strings.Join(all, "=x&")+"=x") != (i == j) {
				t.Errorf("%q in the place of %q", names[j], names[i])
			}
		}
	}
}

// P7.2: what stands between, ahead and behind is no more than it must be.
func TestTextsThatAreNoQueries(t *testing.T) {
	refusesEach(t, asks,
		"a", "aa", "&", "&&", "=&=", "a&b", "a=1&", "&a=1", "a=1&&b=2", "a=1&b", "a&b=1", "a=1&;b", "?a=1&", "?a=1", " ", " a=1", "\x00", "%", "a=1&b=2&", "&a=1&b=2", "a=1& b=2", "a=1&b =2", "a=1\n&\nb=2", "a:1", "{\"a\":1}",
	)
	for s := range texts("ab=&%2", 6) {
		asks(t, s)
	}
	for s := range texts("a=&%Fg", 6) {
		asks(t, s)
	}
}

// P7.2: queries made of many parts, and the same with a fault wherever it may stand.
func TestQueriesByTheModel(t *testing.T) {
	c := chance(72)
	values := []string{"", "1", "=", "%2B", "%2b%3D", "a%00b", "\xff", "é", "+", "%26", "%25"}
	right := 0
	for range 300 {
		var parts []string
		for range 1 + c.below(5) {
			name, value := "", ""
			for range 1 + c.below(3) {
				name += string(rune('_' + c.below(4)))
			}
			for range c.below(4) {
				value += values[c.below(len(values))]
			}
			parts = append(parts, strings.ReplaceAll(name, "`", "z")+"="+value)
		}
		s := strings.Join(parts, "&")
		if asks(t, s) {
			right++
		}
		for other := range spoilt(s, "ab=&%2Fg_\x00\xff") {
			asks(t, other)
		}
	}
	if right < 100 {
		t.Errorf("%d of 300 queries are right", right)
	}
}

// P7.2: a query of very many names is read in its order, and of one name more, that stands there already, refused.
func TestManyNames(t *testing.T) {
	var want []api.Pair
	var all []string
	for n := range 300000 {
		name := ""
		for rest := n; ; rest /= 27 {
			name += "abcdefghijklmnopqrstuvwxyz_"[rest%27 : rest%27+1]
			if rest == 0 {
				break
			}
		}
		// A letter at the end that no other place has, lest noughts ahead make two names one.
		name += "_" + string(rune('a'+len(name)))
		want = append(want, p(name, "v"))
		all = append(all, name+"=v")
	}
	s := strings.Join(all, "&")
	if l, e := text.Query(s); !slices.Equal(l, want) || e != api.OK {
		t.Errorf("%d names: %d %d", len(want), len(l), e)
	}
	for _, twice := range []int{0, 1, 150000, 299999} {
		if l, e := text.Query(s + "&" + all[twice]); len(l) != 0 || e != api.ErrForm {
			t.Errorf("%q twice: %d %d", all[twice], len(l), e)
		}
	}
}

// gets looks at what stands at a name.
func gets(t *testing.T, l []api.Pair, name, want string, there bool) {
	t.Helper()
	if v, ok := text.Get(l, name); v != want || ok != there {
		t.Errorf("Get(%q, %q): %q %v", l, name, v, ok)
	}
}

// P7.2: the first value with a name, of any list and of any name.
func TestGet(t *testing.T) {
	l := []api.Pair{p("a", "1"), p("b", ""), p("a", "2"), p("", "none"), p("B", "%41"), p("b", "3"), p("\xff", "\xff"), p("aa", "4")}
	for name, want := range map[string]string{"a": "1", "b": "", "": "none", "B": "%41", "\xff": "\xff", "aa": "4"} {
		gets(t, l, name, want, true)
	}
	for _, name := range []string{"A", "c", "aaa", "ab", "a ", " ", "1", "2", "\x00", "\xfe", "\ufffd", "none", "a=1"} {
		gets(t, l, name, "", false)
	}
	for _, name := range []string{"", "a"} {
		gets(t, nil, name, "", false)
		gets(t, []api.Pair{}, name, "", false)
		gets(t, l[:0], name, "", false)
	}
	gets(t, l[1:], "a", "2", true)
	gets(t, l[3:], "a", "", false)
	gets(t, []api.Pair{{}}, "", "", true)
}

// P7.2: of a query each name's value is got, and no other's.
func TestGetOfAQuery(t *testing.T) {
	l, _ := text.Query("hash=a%2Bb%3d&tree_size=5&x=")
	gets(t, l, "hash", "a+b=", true)
	gets(t, l, "tree_size", "5", true)
	gets(t, l, "x", "", true)
	for _, name := range []string{"", "y", "has", "hash_", "tree", "HASH", "a+b="} {
		gets(t, l, name, "", false)
	}
}
