package legacy_test

import (
	"maps"
	"slices"
	"strings"
	"testing"

	"pantile/api"
	"pantile/drive"
	"pantile/kv"
	"pantile/legacy"
)

// refused tells where Open tells something else than an error.
func refused(t *testing.T, what string, d *drive.Drive, want api.Errno) {
	t.Helper()
	if l, e := legacy.Open(d); l != nil || e != want {
		t.Errorf("%s: Open told %v %v, not %v", what, l != nil, e, want)
	}
}

// P16.1: a new log takes up no bytes, has nothing, and is the same when it is opened again.
func TestOpenNew(t *testing.T) {
	for _, quota := range []int{0, 1, roomy} {
		l, d := fresh(t, quota)
		for range 3 {
			if d.Used() != 0 || !l.Alive() {
				t.Errorf("%d bytes, alive %v", d.Used(), l.Alive())
			}
			holds(t, "new", l, d, model{})
			l = opened(t, d)
		}
	}
}

// P16.1: kv.Open's errors: no drive, no power, a store that is torn, no room for files.
func TestOpenRefuses(t *testing.T) {
	refused(t, "no drive", nil, api.ErrArg)
	_, d, m := made(t, 3, 1)
	cut(t, d)
	refused(t, "no power", d, api.ErrDown)
	d.Up(nil)
	alike(t, "power again", opened(t, d), m)
	empty := drive.New(roomy)
	cut(t, empty)
	refused(t, "no power", empty, api.ErrDown)
	for _, name := range d.List("legacy.") {
		if data, _ := d.Read(name); len(data) == 0 {
			continue
		}
		is(t, "Append", d.Append(name, []byte("torn")), api.OK)
		is(t, "Sync", d.Sync(name), api.OK)
	}
	refused(t, "torn", d, api.ErrTorn)
	full := drive.New(roomy)
	for i := range 1 << 16 {
		full.Create(strings.Repeat("f", 1+i%16) + "/" + strings.Repeat("g", i/16%16+1) + "/" + string("0123456789abcdef"[i/256%16]) + string("0123456789abcdef"[i/4096]))
	}
	refused(t, "no room", full, api.ErrFull)
}

// P16.1: the log's store is the one of the name legacy, and other stores and files are not its.
func TestOpenBesideOthers(t *testing.T) {
	d := drive.New(roomy)
	for _, name := range []string{"legac", "legacyy", "tiled"} {
		s, _ := kv.Open(d, name)
		is(t, name, s.Apply([]api.Write{{Key: "l/0000000", Value: "none"}}), api.OK)
	}
	is(t, "Create", d.Create("legacy"), api.OK)
	is(t, "Append", d.Append("legacy", []byte("any")), api.OK)
	l := opened(t, d)
	holds(t, "beside others", l, d, fill(t, l, model{}, 5, 3))
}

// laid is a drive on which such records lie in the log's store.
func laid(t *testing.T, records map[string]string) *drive.Drive {
	t.Helper()
	d := drive.New(roomy)
	s, e := kv.Open(d, "legacy")
	is(t, "kv.Open", e, api.OK)
	var batch []api.Write
	for key, value := range records {
		batch = append(batch, api.Write{Key: key, Value: value})
	}
	is(t, "Apply", s.Apply(batch), api.OK)
	return d
}

// models are of logs of many shapes.
func models(t *testing.T) (out []model) {
	t.Helper()
	for _, size := range []int{0, 1, 2, 3, 8} {
		for _, staged := range []int{0, 1, 3} {
			_, _, m := made(t, size, staged)
			out = append(out, m)
		}
	}
	_, _, m := made(t, 2, 64)
	l, _, n := made(t, 6, 0)
	return append(out, m, put(t, l, n, []api.Leaf{n.leaves[1], n.leaves[1], {Time: 9, Cert: "x"}, {Time: 8, Cert: "x"}, n.leaves[5]}, 500))
}

// P16.1, P16.4: records as the chapter tells them are a log's, whoever has written them.
func TestOpenLaid(t *testing.T) {
	for _, m := range models(t) {
		d := laid(t, m.records())
		l := opened(t, d)
		holds(t, "laid", l, d, m)
		m = add(t, l, m, "new", 9)
		holds(t, "laid, and more", l, d, sequence(t, l, m, 1, 2))
	}
}

// spoilt is a log's records with one of them changed, in ways of which none leaves a log's.
func spoilt(records map[string]string, key string) map[string]map[string]string {
	value := records[key]
	last := len(value) - 1
	out := map[string]map[string]string{}
	stands := func(what, key, value string) {
		out[what] = maps.Clone(records)
		out[what][key] = value
	}
	stands("one byte more", key, value+"\x00")
	stands("one byte less", key, value[:last])
	stands("one byte ahead", key, "0"+value)
	stands("empty", key, "")
	stands("another last byte", key, value[:last]+string(rune(value[last]&0x7f^1)))
	if key[0] != 'h' { // a later head
		stands("another byte", key, string(rune(value[0]&0x7f^1))+value[1:])
	}
	stands("twice", key+"0", value)
	stands("twice, with a digit ahead", key[:2]+"0"+key[2:], value)
	for what, other := range map[string]string{"a longer key": key + "0", "a shorter key": key[:len(key)-1], "capitals": strings.ToUpper(key)} {
		stands(what, other, value)
		delete(out[what], key)
	}
	return out
}

// P16.1: with any one of its records changed, or at another key, a log's records are no log's.
func TestOpenSpoilt(t *testing.T) {
	for _, m := range models(t) {
		records := m.records()
		for key := range records {
			for what, r := range spoilt(records, key) {
				refused(t, key+": "+what, laid(t, r), api.ErrTorn)
			}
		}
	}
}

// lesser are the logs whose records are those of another one but for one record: without the last leaf that is staged, and without a head that is not the last.
func lesser(m model) (out []model) {
	if n := len(m.staged); n > 0 {
		out = append(out, model{m.leaves, m.staged[:n-1], m.heads})
	}
	for i := range len(m.heads) - 1 {
		out = append(out, model{m.leaves, m.staged, slices.Delete(slices.Clone(m.heads), i, i+1)})
	}
	return out
}

// P16.1: without any one of its records a log's records are no log's, or those of a lesser one.
func TestOpenMissing(t *testing.T) {
	for _, m := range models(t) {
		for key := range m.records() {
			left := m.records()
			delete(left, key)
			d := laid(t, left)
			i := slices.IndexFunc(lesser(m), func(l model) bool { return maps.Equal(l.records(), left) })
			if i < 0 {
				refused(t, "without "+key, d, api.ErrTorn)
				continue
			}
			holds(t, "without "+key, opened(t, d), d, lesser(m)[i])
		}
	}
}

// P16.1: records that are right one by one, but not together.
func TestOpenNoLogs(t *testing.T) {
	_, _, m := made(t, 5, 2)
	hash := func(h string) string { return "i/" + hexOf(h) }
	for what, more := range map[string]map[string]string{
		"a head of more leaves":     {"h/0000006": "0000500 " + hexOf(m.last().Root)},
		"a head of no leaves":       {"h/0000000": "0000000 " + hexOf(root(nil))},
		"a head of another's root":  {"h/0000004": "0000105 " + hexOf(m.last().Root)},
		"a head that is earlier":    {"h/0000004": "0000001 " + hexOf(root(hashes(m.leaves[:4])))},
		"a head that is later":      {"h/0000001": "0000900 " + hexOf(root(hashes(m.leaves[:1])))},
		"a head beyond all times":   {"h/0000005": "1125899906842625 " + hexOf(m.last().Root)},
		"a head with two blanks":    {"h/0000005": "0000500  " + hexOf(m.last().Root)},
		"a head without a blank":    {"h/0000005": "0000500" + hexOf(m.last().Root)},
		"a head without a root":     {"h/0000005": "0000500 "},
		"a head with no time":       {"h/0000005": " " + hexOf(m.last().Root)},
		"a head's time below 0":     {"h/0000001": "-000001 " + hexOf(root(hashes(m.leaves[:1])))},
		"a head's root in capitals": {"h/0000005": "0000500 " + strings.ToUpper(hexOf(m.last().Root))},
		"a node that is not whole":  {"n/01/0000002": m.last().Root},
		"a node above all":          {"n/03/0000000": m.last().Root},
		"a hash of no leaf":         {hash(root(nil)): "0000000"},
		"a hash of a staged leaf":   {hash(leafHash(m.staged[0])): "0000005"},
		"a hash at another leaf":    {hash(leafHash(m.leaves[1])): "0000002"},
		"a hash at no leaf":         {hash(leafHash(m.leaves[4])): "0000005"},
		"a hash at a greater one":   {hash(leafHash(m.leaves[4])): "9223372036854775807"},
		"a hash at no number":       {hash(leafHash(m.leaves[4])): "x"},
		"staged beyond a gap":       {"p/0000008": leafBytes(api.Leaf{Time: 1, Cert: "x"})},
		"staged ahead":              {"p/0000004": leafBytes(api.Leaf{Time: 1, Cert: "x"})},
		"staged twice":              {"p/0000007": leafBytes(m.staged[0])},
		"staged twice, later":       {"p/0000007": leafBytes(api.Leaf{Time: 999, Cert: m.staged[0].Cert})},
		"staged, and a leaf":        {"p/0000007": leafBytes(api.Leaf{Time: 999, Cert: m.leaves[0].Cert})},
		"a leaf beyond a gap":       {"l/0000006": leafBytes(api.Leaf{Time: 1, Cert: "x"})},
		"a leaf more":               {"l/0000005": leafBytes(api.Leaf{Time: 1, Cert: "x"})},
		"a key of no kind":          {"x/0000000": "0000000"},
		"a key of one letter":       {"l": "0000000"},
		"a key of a blank":          {" ": ""},
	} {
		r := m.records()
		maps.Copy(r, more)
		refused(t, what, laid(t, r), api.ErrTorn)
	}
}

// P16.1: leaves' bytes that are none, though all else fits them; and more than 64 that are staged, or one out of its order.
func TestOpenWrongLeaves(t *testing.T) {
	_, _, m := made(t, 3, 2)
	for _, x := range []api.Leaf{{}, {Time: 1}, {Time: 1<<50 + 1, Cert: "x"}, {Time: -1, Cert: "x"}, {Time: 1, Cert: strings.Repeat("x", 1001)}} {
		wrong := model{leaves: append(slices.Clone(m.leaves), x)}
		wrong.heads = append(slices.Clone(m.heads), wrong.headed(500))
		refused(t, "a leaf", laid(t, wrong.records()), api.ErrTorn)
		wrong = model{leaves: m.leaves, heads: m.heads, staged: append(slices.Clone(m.staged), x)}
		refused(t, "a staged leaf", laid(t, wrong.records()), api.ErrTorn)
	}
	many := model{staged: some(65, "staged")}
	refused(t, "65 staged", laid(t, many.records()), api.ErrTorn)
	for _, at := range []string{"p/0000003", "p/0000004"} {
		r := m.records()
		r["p/0000009"] = r[at]
		delete(r, at)
		refused(t, at+" out of its order", laid(t, r), api.ErrTorn)
	}
}
