package json_test

import (
	"regexp"
	"slices"
	"strconv"
	"strings"
	"testing"

	"pantile/api"
	"pantile/json"
)

const most = 1 << 53

// text, list: values as the chapter says them, without the program's own calls.
func text(s string) api.Json          { return api.Json{Kind: api.JsonText, Text: s} }
func number(n int) api.Json           { return api.Json{Kind: api.JsonInt, Number: n} }
func list(kids ...api.Json) api.Json  { return api.Json{Kind: api.JsonList, Kids: kids} }
func names(all ...string) []string    { return all }
func kids(all ...api.Json) []api.Json { return all }
func fold(n []string, k []api.Json) api.Json {
	return api.Json{Kind: api.JsonMap, Names: n, Kids: k}
}

// nested is a value inside so many lists (of an L) and maps (of an M).
func nested(kinds string, v api.Json) api.Json {
	for i := len(kinds) - 1; i >= 0; i-- {
		if kinds[i] == 'L' {
			v = list(v)
		} else {
			v = fold(names("n"), kids(v))
		}
	}
	return v
}

// nestedText is the text of the same.
func nestedText(kinds, inner string) string {
	for i := len(kinds) - 1; i >= 0; i-- {
		if kinds[i] == 'L' {
			inner = "[" + inner + "]"
		} else {
			inner = `{"n":` + inner + "}"
		}
	}
	return inner
}

// nests are all ways in which so many lists and maps stand in one another.
func nests(many int) (out []string) {
	for n := range 1 << many {
		kinds := ""
		for i := range many {
			kinds += string("LM"[n>>i&1])
		}
		out = append(out, kinds)
	}
	return out
}

// equal tells whether two are the same, nil and empty lists being one.
func equal(a, b api.Json) bool {
	return a.Kind == b.Kind && a.Text == b.Text && a.Number == b.Number &&
		slices.Equal(a.Names, b.Names) && slices.EqualFunc(a.Kids, b.Kids, equal)
}

// zero tells whether a value is the zero one.
func zero(v api.Json) bool { return equal(v, api.Json{}) }

// writes looks at a value's text.
func writes(t *testing.T, v api.Json, want string) {
	t.Helper()
	if s, e := json.Write(v); s != want || e != api.OK {
		t.Errorf("Write(%+v): %q %d, not %q", v, s, e, want)
	}
}

// refusesValue looks that a value is refused.
func refusesValue(t *testing.T, v api.Json) {
	t.Helper()
	if s, e := json.Write(v); s != "" || e != api.ErrArg {
		t.Errorf("Write(%+v): %q %d, not refused", v, s, e)
	}
}

// reads looks at a text's value.
func reads(t *testing.T, s string, want api.Json) {
	t.Helper()
	if v, e := json.Read(s); !equal(v, want) || e != api.OK {
		t.Errorf("Read(%.200q): %+v %d, not %+v", s, v, e, want)
	}
}

// refusesText looks that a text is refused.
func refusesText(t *testing.T, s string, want api.Errno) {
	t.Helper()
	if v, e := json.Read(s); !zero(v) || e != want {
		t.Errorf("Read(%.200q): %+v %d, not refused with %d", s, v, e, want)
	}
}

// both looks at a value and its text, in both directions.
func both(t *testing.T, v api.Json, s string) {
	t.Helper()
	writes(t, v, s)
	reads(t, s, v)
}

// modelText is a value's text, by the chapter's words; not ok, if it is none.
func modelText(v api.Json, room int) (string, bool) {
	switch {
	case v.Kind == api.JsonText && v.Number == 0 && len(v.Names)+len(v.Kids) == 0:
		return modelQuoted(v.Text)
	case v.Kind == api.JsonInt && v.Text == "" && len(v.Names)+len(v.Kids) == 0:
		return strconv.Itoa(v.Number), v.Number >= 0 && v.Number <= most
	case v.Kind == api.JsonList && v.Text == "" && v.Number == 0 && len(v.Names) == 0 && room > 0:
		parts, ok := modelParts(v, room)
		return "[" + strings.Join(parts, ",") + "]", ok
	case v.Kind == api.JsonMap && v.Text == "" && v.Number == 0 && len(v.Names) == len(v.Kids) && room > 0:
		parts, ok := modelParts(v, room)
		return "{" + strings.Join(parts, ",") + "}", ok
	}
	return "", false
}

// modelParts are the texts of a list's kids, or of a map's names and kids.
func modelParts(v api.Json, room int) (parts []string, ok bool) {
	for i, kid := range v.Kids {
		s, ok := modelText(kid, room-1)
		if !ok {
			return nil, false
		}
		if v.Kind == api.JsonMap {
			name, ok := modelQuoted(v.Names[i])
			if !ok || slices.Contains(v.Names[:i], v.Names[i]) {
				return nil, false
			}
			s = name + ":" + s
		}
		parts = append(parts, s)
	}
	return parts, true
}

// modelQuoted is a text's text.
func modelQuoted(s string) (string, bool) {
	ok := strings.IndexFunc(s, func(c rune) bool { return c < 32 || c > 126 }) < 0
	return `"` + strings.ReplaceAll(strings.ReplaceAll(s, `\`, `\\`), `"`, `\"`) + `"`, ok
}

var (
	token = regexp.MustCompile("^(?:[ \t\n\r]+|\"(?:[ !#-\\[\\]-~]|\\\\[\"\\\\/])*\"|0|[1-9][0-9]*|[]\\[{}:,])")
	inner = regexp.MustCompile(`\[(?:[A-Znv](?:,[A-Znv])*)?\]|\{(?:[A-Z]:[A-Znv](?:,[A-Z]:[A-Znv])*)?\}`)
	named = regexp.MustCompile(`[A-Z]:`)
)

// slashes makes of each escaped `/` a plain one. It goes from the left on, two signs at a time, so that the second one of `\\` is taken for no first one.
var slashes = strings.NewReplacer(`\\`, `\\`, `\/`, `/`)

// modelRead is a text without its blanks, written as Write does; not ok, if it is no value's. It goes by rewriting: each round makes of the innermost lists and maps one sign, so that there are as many rounds as stand in one another. It knows at most 26 texts that are unlike one another.
func modelRead(s string) (plain string, ok bool) {
	var signs strings.Builder
	letters := map[string]byte{}
	for s != "" {
		word := token.FindString(s)
		if word == "" {
			return "", false
		}
		s = s[len(word):]
		sign := word
		switch c := word[0]; {
		case c == '"':
			word = slashes.Replace(word)
			if letters[word] == 0 {
				letters[word] = byte('A' + len(letters))
			}
			if len(letters) > 26 {
				panic("more texts than letters")
			}
			sign = string(letters[word])
		case c >= '0' && c <= '9':
			if len(word) > 16 || len(word) == 16 && word > "9007199254740992" {
				return "", false
			}
			sign = "n"
		case strings.IndexByte(" \t\n\r", c) >= 0:
			continue
		}
		plain += word
		signs.WriteString(sign)
	}
	return plain, modelRewritten(signs.String())
}

// modelRewritten tells whether signs come down to one value in at most five rounds.
func modelRewritten(signs string) bool {
	for range 5 {
		signs = inner.ReplaceAllStringFunc(signs, func(one string) string {
			all := named.FindAllString(one, -1)
			slices.Sort(all)
			if len(slices.Compact(slices.Clone(all))) != len(all) {
				return "x"
			}
			return "v"
		})
	}
	return len(signs) == 1 && signs != "x" && (signs == "n" || signs == "v" || signs >= "A" && signs <= "Z")
}

// byTheModel looks at a text, which is right or wrong.
func byTheModel(t *testing.T, s string) bool {
	t.Helper()
	plain, ok := modelRead(s)
	if !ok {
		refusesText(t, s, api.ErrForm)
		return false
	}
	v, e := json.Read(s)
	if got, f := json.Write(v); e != api.OK || f != api.OK || got != plain {
		t.Errorf("Read(%q): %+v %d, written %q %d, not %q", s, v, e, got, f, plain)
	}
	if got, ok := modelText(v, 5); !ok || got != plain {
		t.Errorf("Read(%q): %+v, which is %q, not %q", s, v, got, plain)
	}
	return true
}

// chance is a row of numbers that looks as if it had none.
type chance uint64

// below is the next number, below another.
func (c *chance) below(n int) int {
	*c = *c*6364136223846793005 + 1442695040888963407
	return int(uint64(*c)>>33) % n
}

// value is a value of no more than so many lists and maps in one another.
func (c *chance) value(room int) api.Json {
	kind := c.below(4)
	if room == 0 {
		kind %= 2
	}
	switch kind {
	case 0:
		return text(c.text())
	case 1:
		return number([]int{0, 1, 9, 10, 255, 65536, 1 << 40, most - 1, most}[c.below(9)])
	case 2:
		v := list()
		for range c.below(4) {
			v.Kids = append(v.Kids, c.value(room-1))
		}
		return v
	}
	v := fold(nil, nil)
	for range c.below(4) {
		if name := c.text(); !slices.Contains(v.Names, name) {
			v.Names = append(v.Names, name)
			v.Kids = append(v.Kids, c.value(room-1))
		}
	}
	return v
}

// text is a short text.
func (c *chance) text() (s string) {
	const some = ` !"#/09:AZ[\]az{,}~`
	for range c.below(6) {
		s += string(some[c.below(len(some))])
	}
	return s
}
