package json

import (
	"slices"
	"strings"

	"pantile/api"
)

// spot tells one list of kids from all others: where it begins, and how many it has.
type spot struct {
	first *api.Json
	many  int
}

// level is a list that is being copied: what it is a copy of, the copy, and how many of its kids are copied.
type level struct {
	from spot
	kids []api.Json
	done int
}

// copying is a copy under way: the lists that are open, one in another, and the copies of them. It goes on in a loop, and not by calling itself, since kids may be as deep as they like.
type copying struct {
	open   []level
	copies map[spot][]api.Json
}

// copyNames is a copy of names.
func copyNames(names []string) (out []string) {
	for _, name := range names {
		out = append(out, strings.Clone(name))
	}
	return out
}

// copyKids is a copy of kids, at every depth.
func copyKids(kids []api.Json) []api.Json {
	c := copying{copies: map[spot][]api.Json{}}
	out := c.list(kids)
	for len(c.open) > 0 {
		c.step()
	}
	return out
}

// step copies one kid of the innermost list, or closes the list.
func (c *copying) step() {
	last := &c.open[len(c.open)-1]
	if last.done == len(last.kids) {
		delete(c.copies, last.from)
		c.open = c.open[:len(c.open)-1]
		return
	}
	kid := &last.kids[last.done]
	last.done++
	kid.Text = strings.Clone(kid.Text)
	kid.Names = copyNames(kid.Names)
	kid.Kids = c.list(kid.Kids)
}

// list opens a list and is its copy. Of a list that stands in itself it is the copy that is open already, which stands in itself likewise: else it had no end.
func (c *copying) list(kids []api.Json) []api.Json {
	if len(kids) == 0 {
		return nil
	}
	from := spot{&kids[0], len(kids)}
	if out, ok := c.copies[from]; ok {
		return out
	}
	out := slices.Clone(kids)
	c.copies[from] = out
	c.open = append(c.open, level{from: from, kids: out})
	return out
}
