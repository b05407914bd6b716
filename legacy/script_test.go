package legacy_test

import (
	"math/rand"
	"strconv"
	"testing"

	"pantile/api"
)

// anyCall is one by chance, right or wrong.
func anyCall(r *rand.Rand, m model) call {
	now := m.last().Time + r.Intn(9) - 3
	cert := func() string { return "cert"[:r.Intn(5)] + strconv.Itoa(r.Intn(30)) }
	switch r.Intn(8) {
	case 0:
		return sequenceCall(now, r.Intn(7))
	case 1:
		return sequenceCall(now, 64)
	case 2, 3:
		var leaves []api.Leaf
		for range r.Intn(6) {
			leaves = append(leaves, api.Leaf{Time: r.Intn(50), Cert: cert()})
		}
		return putCall(m, leaves, now)
	}
	return addCall(cert(), r.Intn(50)-1)
}

// P16.2 to P16.5: calls by chance, right and wrong, with and without room and power: each answers as the model does, and leaves the log as it.
func TestScripts(t *testing.T) {
	for seed := range int64(12) {
		r := rand.New(rand.NewSource(seed))
		l, d := fresh(t, roomy)
		m := model{}
		for range 150 {
			x := anyCall(r, m)
			goes, want := x.goes(m)
			if r.Intn(3) == 0 {
				d.Arm(r.Intn(4))
			}
			if r.Intn(9) == 0 {
				is(t, "Quota", d.Quota(d.Used()), api.OK)
			}
			was := lies(d)
			e := x.ask(l)
			switch {
			case e == api.ErrDown && !d.Alive():
				d.Up([]int{r.Intn(3) - 1})
				l = opened(t, d)
				m, _ = cutOff{was: m, goes: goes}.left(t, x.what, l)
			case e == api.ErrFull && lies(d) == was:
			default:
				is(t, x.what, e, want)
				m = goes
			}
			d.Arm(-1)
			is(t, "Quota", d.Quota(roomy), api.OK)
			alike(t, x.what, l, m)
		}
		holds(t, "the script's end", l, d, m)
	}
}
