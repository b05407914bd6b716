package text

import (
	"slices"
	"strings"

	"pantile/api"
)

const (
	mostName  = 20
	mostValue = 100
	sixteens  = "0123456789abcdefABCDEF"
	capitals  = 6
	escape    = '%'
	escaped   = 2
)

// Query is a query's names and values.
func Query(s string) ([]api.Pair, api.Errno) {
	if s == "" {
		return nil, api.OK
	}
	var out []api.Pair
	seen := map[string]struct{}{}
	for one := range strings.SplitSeq(s, "&") {
		p, ok := pair(one)
		if !ok {
			return nil, api.ErrForm
		}
		out = append(out, p)
		seen[p.Name] = struct{}{}
	}
	if len(seen) != len(out) {
		return nil, api.ErrForm
	}
	return out, api.OK
}

// Get is what stands at a name.
func Get(l []api.Pair, name string) (string, bool) {
	at := slices.IndexFunc(l, func(p api.Pair) bool { return p.Name == name })
	if at < 0 {
		return "", false
	}
	return strings.Clone(l[at].Value), true
}

// pair is a name and a value, read; not ok, if it is none.
func pair(s string) (api.Pair, bool) {
	name, value, ok := strings.Cut(s, "=")
	if !ok || !isName(name) || len(value) > mostValue {
		return api.Pair{}, false
	}
	value, ok = unescape(value)
	return api.Pair{Name: strings.Clone(name), Value: value}, ok
}

// isName tells whether a text may be a query's name.
func isName(s string) bool {
	other := func(r rune) bool { return r != '_' && (r < 'a' || 'z' < r) }
	return within(len(s), 1, mostName) && !strings.ContainsFunc(s, other)
}

// unescape is a value with bytes for their escapes; not ok, if a sign of escape has no two digits.
func unescape(s string) (string, bool) {
	out := make([]byte, 0, len(s))
	for s != "" {
		c := s[0]
		s = s[1:]
		if c == escape {
			if len(s) < escaped {
				return "", false
			}
			high, low := sixteen(s[0]), sixteen(s[1])
			if high < 0 || low < 0 {
				return "", false
			}
			c = byte(high<<4 | low)
			s = s[escaped:]
		}
		out = append(out, c)
	}
	return string(out), true
}

// sixteen is what a digit of sixteen stands for; below 0, if it is none.
func sixteen(c byte) int {
	n := strings.IndexByte(sixteens, c)
	if n >= 16 {
		n -= capitals
	}
	return n
}
