package json

import (
	"strconv"
	"strings"

	"pantile/api"
)

// reader is a text that is being read: what is left of it.
type reader struct {
	nest
	rest string
}

// skip takes the blanks that are next.
func (r *reader) skip() { r.rest = strings.TrimLeft(r.rest, blanks) }

// sign takes a sign and the blanks ahead of it, if it is next.
func (r *reader) sign(c byte) bool {
	r.skip()
	if r.rest == "" || r.rest[0] != c {
		return false
	}
	r.rest = r.rest[1:]
	return true
}

// value takes a value and the blanks ahead of it.
func (r *reader) value() (v api.Json, ok bool) {
	switch {
	case r.sign(quote):
		v.Kind = api.JsonText
		v.Text, ok = r.text()
	case r.sign(listBegin):
		v.Kind = api.JsonList
		v.Kids, ok = take(r, listEnd, r.value)
	case r.sign(mapBegin):
		v.Kind = api.JsonMap
		v.Names, v.Kids, ok = r.members()
	default:
		v.Kind = api.JsonInt
		v.Number, ok = r.number()
	}
	return v, ok
}

// text takes a text whose first quote is taken. Its bytes are put together anew: a piece of what is read would keep all of it.
func (r *reader) text() (string, bool) {
	var out strings.Builder
	for i := 0; i < len(r.rest); i++ {
		c := r.rest[i]
		if c == quote {
			r.rest = r.rest[i+1:]
			return out.String(), true
		}
		if c == escape {
			i++
			if i == len(r.rest) || strings.IndexByte(mayEscape, r.rest[i]) < 0 {
				return "", false
			}
			c = r.rest[i]
		}
		if !textByte(c) {
			return "", false
		}
		out.WriteByte(c)
	}
	return "", false
}

// number takes an integer.
func (r *reader) number() (int, bool) {
	r.skip()
	behind := strings.TrimLeft(r.rest, digits)
	decimal := r.rest[:len(r.rest)-len(behind)]
	n, err := strconv.Atoi(decimal)
	// One that is not written again as it was has noughts ahead.
	if err != nil || n > mostNumber || strconv.Itoa(n) != decimal {
		return 0, false
	}
	r.rest = behind
	return n, true
}

// members takes a map whose first sign is taken.
func (r *reader) members() (names []string, kids []api.Json, ok bool) {
	all, ok := take(r, mapEnd, r.member)
	for _, m := range all {
		names = append(names, m.name)
		kids = append(kids, m.kid)
	}
	return names, kids, ok && unlike(names)
}

// member takes a name, and the kid that stands at it.
func (r *reader) member() (m member, ok bool) {
	if !r.sign(quote) {
		return member{}, false
	}
	m.name, ok = r.text()
	if !ok || !r.sign(nameEnd) {
		return member{}, false
	}
	m.kid, ok = r.value()
	return m, ok
}

// take takes what a list or a map has, one by one, and the sign at its end.
func take[T any](r *reader, end byte, one func() (T, bool)) (all []T, ok bool) {
	defer r.leave()
	if !r.enter() {
		return nil, false
	}
	if r.sign(end) {
		return nil, true
	}
	for {
		each, ok := one()
		if !ok {
			return nil, false
		}
		all = append(all, each)
		if r.sign(end) {
			return all, true
		}
		if !r.sign(between) {
			return nil, false
		}
	}
}
