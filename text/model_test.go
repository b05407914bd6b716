package text_test

import (
	"fmt"
	"iter"
	"regexp"
	"slices"
	"strconv"
	"strings"
	"testing"

	"pantile/api"
	"pantile/text"
)

const most = 1 << 53

// chance tells numbers that seem to come by chance, the same ones each time.
type chance uint64

// below is a number from 0 to n - 1.
func (c *chance) below(n int) int {
	*c = *c*6364136223846793005 + 1442695040888963407
	return int(uint64(*c)>>33) % n
}

var decimalForm = regexp.MustCompile(`\A(0|[1-9][0-9]{0,15})\z`)

// modelNumber is the number of a decimal, if it is one.
func modelNumber(s string) (int, bool) {
	if !decimalForm.MatchString(s) {
		return 0, false
	}
	n, err := strconv.Atoi(s)
	if err != nil || n > most {
		return 0, false
	}
	return n, true
}

var (
	nameForm   = regexp.MustCompile(`\A[a-z_]{1,20}\z`)
	escapeForm = regexp.MustCompile(`%[0-9A-Fa-f][0-9A-Fa-f]`)
)

// modelQuery is a query's names and values, if it is one: escapes are taken from the end on.
func modelQuery(s string) (out []api.Pair, ok bool) {
	if len(s) == 0 {
		return nil, true
	}
	taken := map[string]bool{}
	for _, one := range strings.Split(s, "&") {
		both := strings.SplitN(one, "=", 2)
		if len(both) < 2 || !nameForm.MatchString(both[0]) || taken[both[0]] || len(both[1]) > 100 {
			return nil, false
		}
		value := both[1]
		if strings.Contains(escapeForm.ReplaceAllLiteralString(value, ""), "%") {
			return nil, false
		}
		for at := strings.LastIndex(value, "%"); at >= 0; at = strings.LastIndex(value[:at], "%") {
			n, err := strconv.ParseUint(value[at+1:at+3], 16, 8)
			if err != nil {
				return nil, false
			}
			value = value[:at] + string([]byte{byte(n)}) + value[at+3:]
		}
		taken[both[0]] = true
		out = append(out, api.Pair{Name: both[0], Value: value})
	}
	return out, true
}

// modelIndex is a number's path, from its last three digits on.
func modelIndex(n int) string {
	path := fmt.Sprintf("%03d", n%1000)
	for n /= 1000; n > 0; n /= 1000 {
		path = fmt.Sprintf("x%03d/", n%1000) + path
	}
	return path
}

// modelPath is a tile's path, if it is one.
func modelPath(t api.Tile) (string, bool) {
	if t.Level < -1 || t.Level > 63 || t.Index < 0 || t.Index > most || t.Width < 1 || t.Width > 256 {
		return "", false
	}
	level, end := fmt.Sprint(t.Level), fmt.Sprintf(".p/%d", t.Width)
	if t.Level == -1 {
		level = "entries"
	}
	if t.Width == 256 {
		end = ""
	}
	return fmt.Sprintf("tile/%s/%s%s", level, modelIndex(t.Index), end), true
}

var pathForm = regexp.MustCompile(`\Atile/(entries|[0-9]|[1-5][0-9]|6[0-3])/((?:x[0-9]{3}/)*[0-9]{3})(?:\.p/([1-9][0-9]{0,2}))?\z`)

// modelTile is a path's tile, if it is one's.
func modelTile(s string) (t api.Tile, ok bool) {
	found := pathForm.FindStringSubmatch(s)
	if found == nil || strings.HasPrefix(found[2], "x000/") {
		return api.Tile{}, false
	}
	level, width := found[1], found[3]
	if level == "entries" {
		level = "-1"
	}
	if width == "" {
		width = "256"
	} else if len(width) == 3 && width > "255" {
		return api.Tile{}, false
	}
	index := strings.ReplaceAll(strings.ReplaceAll(found[2], "x", ""), "/", "")
	for i, digits := range []string{level, index, width} {
		n, err := strconv.Atoi(digits)
		if err != nil || n > most {
			return api.Tile{}, false
		}
		*[]*int{&t.Level, &t.Index, &t.Width}[i] = n
	}
	return t, true
}

// tells looks at Number of a text, by the model.
func tells(t *testing.T, s string) (right bool) {
	t.Helper()
	n, e := text.Number(s)
	want, right := modelNumber(s)
	if right && (n != want || e != api.OK) || !right && (n != 0 || e != api.ErrForm) {
		t.Errorf("Number(%q): %d %d, not %d %v", s, n, e, want, right)
	}
	return right
}

// asks looks at Query of a text, by the model.
func asks(t *testing.T, s string) (right bool) {
	t.Helper()
	l, e := text.Query(s)
	want, right := modelQuery(s)
	if right && (!slices.Equal(l, want) || e != api.OK) || !right && (len(l) != 0 || e != api.ErrForm) {
		t.Errorf("Query(%q): %q %d, not %q %v", s, l, e, want, right)
	}
	return right
}

// parses looks at Parse of a text, by the model.
func parses(t *testing.T, s string) (right bool) {
	t.Helper()
	tile, e := text.Parse(s)
	want, right := modelTile(s)
	if right && (tile != want || e != api.OK) || !right && (tile != api.Tile{} || e != api.ErrForm) {
		t.Errorf("Parse(%q): %+v %d, not %+v %v", s, tile, e, want, right)
	}
	return right
}

// goesBoth looks at a tile's path, by the model, and at what is read of it.
func goesBoth(t *testing.T, tile api.Tile) string {
	t.Helper()
	s, e := text.Path(tile)
	want, right := modelPath(tile)
	if right && (s != want || e != api.OK) || !right && (s != "" || e != api.ErrArg) {
		t.Errorf("Path(%+v): %q %d, not %q %v", tile, s, e, want, right)
	}
	if !right {
		return ""
	}
	if again, e := text.Parse(s); again != tile || e != api.OK {
		t.Errorf("Parse(%q): %+v %d, not %+v", s, again, e, tile)
	}
	return s
}

// refusesEach looks that each of some texts is refused, by the call and by the model.
func refusesEach(t *testing.T, look func(*testing.T, string) bool, all ...string) {
	t.Helper()
	for _, s := range all {
		if look(t, s) {
			t.Errorf("%q is taken", s)
		}
	}
}

// takesEach looks that each of some texts is taken, by the call and by the model.
func takesEach(t *testing.T, look func(*testing.T, string) bool, all ...string) {
	t.Helper()
	for _, s := range all {
		if !look(t, s) {
			t.Errorf("%q is refused", s)
		}
	}
}

// texts tells all texts of some signs, up to so many.
func texts(signs string, many int) iter.Seq[string] {
	return func(yield func(string) bool) {
		last := []string{""}
		for range many + 1 {
			var next []string
			for _, s := range last {
				if !yield(s) {
					return
				}
				for i := range len(signs) {
					next = append(next, s+signs[i:i+1])
				}
			}
			last = next
		}
	}
}

// spoilt tells a text with one sign put in, put in another's place, or left out, wherever it stands, and pieces of the text.
func spoilt(s, signs string) iter.Seq[string] {
	return func(yield func(string) bool) {
		for at := range len(s) + 1 {
			if !yield(s[:at]) || !yield(s[at:]) {
				return
			}
			if at < len(s) && (!yield(s[:at]+s[at+1:]) || !yield(s[:at]+s[at:at+1]+s[at:])) {
				return
			}
			for i := range len(signs) {
				if !yield(s[:at]+signs[i:i+1]+s[at:]) || at < len(s) && !yield(s[:at]+signs[i:i+1]+s[at+1:]) {
					return
				}
			}
		}
	}
}
