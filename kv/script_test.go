package kv_test

import (
	"math/rand"
	"strconv"
	"strings"
	"testing"

	"pantile/api"
)

// anyBatch is of few keys, so that they come again.
func anyBatch(r *rand.Rand) (out []api.Write) {
	for range r.Intn(5) {
		key := strings.Repeat(string(rune('a'+r.Intn(5))), r.Intn(3)+1)
		if r.Intn(3) == 0 {
			out = append(out, gone(key))
			continue
		}
		out = append(out, set(key, strings.Repeat(strconv.Itoa(r.Intn(10)), r.Intn(6))))
	}
	return out
}

// anyDeed is a batch, now and then a Compact.
func anyDeed(r *rand.Rand) deed {
	if r.Intn(6) == 0 {
		return deed{compact: true}
	}
	return deed{batch: anyBatch(r)}
}

// P14.1, P14.2, P14.3: whatever is asked, in whatever order, a store is as its model is, and so is one that is opened then.
func TestScripts(t *testing.T) {
	for script := range 200 {
		r := chance(int64(-script))
		s, d := fresh(t, roomy)
		var m model
		for range 60 {
			x := anyDeed(r)
			if r.Intn(8) == 0 {
				wrong := append(anyBatch(r), wrongWrites()[r.Intn(12)])
				is(t, "a batch that may not be", s.Apply(append(wrong, anyBatch(r)...)), api.ErrArg)
			}
			is(t, "a deed", x.do(s), api.OK)
			m = m.with(x.batch...)
			alike(t, "the store", s, m)
			if again := opened(t, d, "log"); r.Intn(3) == 0 {
				alike(t, "opened again", again, m)
				s = again
			}
		}
	}
}
