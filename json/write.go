package json

import (
	"strconv"
	"strings"

	"pantile/api"
)

// writer is a text under way.
type writer struct {
	nest
	out strings.Builder
}

// value writes a value; not ok, if it is none.
func (w *writer) value(v api.Json) bool {
	if !bare(v) {
		return false
	}
	switch v.Kind {
	case api.JsonText:
		return w.text(v.Text)
	case api.JsonInt:
		return w.number(v.Number)
	case api.JsonList:
		return put(w, listBegin, listEnd, v.Kids, w.value)
	}
	return w.members(v)
}

// bare tells whether a value is of a kind, and the fields that its kind has nothing to do with are zero.
func bare(v api.Json) bool {
	switch v.Kind {
	case api.JsonText:
		v.Text = ""
	case api.JsonInt:
		v.Number = 0
	case api.JsonMap:
		v.Names = nil
		fallthrough // it has kids too
	case api.JsonList:
		v.Kids = nil
	default:
		return false
	}
	return v.Text == "" && v.Number == 0 && len(v.Names) == 0 && len(v.Kids) == 0
}

// text writes a text.
func (w *writer) text(s string) bool {
	w.out.WriteByte(quote)
	for _, c := range []byte(s) {
		if !textByte(c) {
			return false
		}
		if strings.IndexByte(needsEscape, c) >= 0 {
			w.out.WriteByte(escape)
		}
		w.out.WriteByte(c)
	}
	w.out.WriteByte(quote)
	return true
}

// number writes an integer.
func (w *writer) number(n int) bool {
	if n < 0 || n > mostNumber {
		return false
	}
	w.out.WriteString(strconv.Itoa(n))
	return true
}

// members writes a map.
func (w *writer) members(v api.Json) bool {
	if len(v.Names) != len(v.Kids) || !unlike(v.Names) {
		return false
	}
	all := make([]member, len(v.Kids))
	for i, kid := range v.Kids {
		all[i] = member{v.Names[i], kid}
	}
	return put(w, mapBegin, mapEnd, all, w.member)
}

// member writes a name, and the kid that stands at it.
func (w *writer) member(m member) bool {
	if !w.text(m.name) {
		return false
	}
	w.out.WriteByte(nameEnd)
	return w.value(m.kid)
}

// put writes what a list or a map has, one by one.
func put[T any](w *writer, begin, end byte, all []T, one func(T) bool) bool {
	defer w.leave()
	if !w.enter() {
		return false
	}
	w.out.WriteByte(begin)
	for i, each := range all {
		if i > 0 {
			w.out.WriteByte(between)
		}
		if !one(each) {
			return false
		}
	}
	w.out.WriteByte(end)
	return true
}
