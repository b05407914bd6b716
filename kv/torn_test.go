package kv_test

import (
	"strings"
	"testing"

	"pantile/api"
	"pantile/drive"
	"pantile/kv"
)

// stocked is a store of three batches, and how it was behind each of them.
func stocked(t *testing.T) (*drive.Drive, []model) {
	t.Helper()
	s, d := fresh(t, roomy)
	m := []model{nil}
	for _, batch := range [][]api.Write{some(2, 3), {set("key0", ""), gone("key1"), set("\x00\xff", "v")}, {set("last", "one")}} {
		is(t, "Apply", s.Apply(batch), api.OK)
		m = append(m, m[len(m)-1].with(batch...))
	}
	return d, m
}

// P14.1: files that are none of a store's, be they of its own bytes or of none.
func TestTornByFiles(t *testing.T) {
	for _, file := range []string{"log.", "log.a", "log.logs", "log.log.log", "log.tmp", "log./log", "log..log", "log.0", "log.z"} {
		for _, data := range []string{"", "x", "garbage"} {
			for _, stored := range []bool{false, true} {
				d := drive.New(roomy)
				if stored {
					d, _ = stocked(t)
				}
				lay(t, d, file, data)
				refused(t, file, d, "log", api.ErrTorn)
			}
		}
	}
}

// P14.1: each of its files, with bytes that are none of a store's: instead of its own, and behind them.
func TestTornByBytes(t *testing.T) {
	wrong := []string{"\x00", "\xff", "x", "garbage", "garbage that goes on and on, for longer than a frame", strings.Repeat("\x00", 4), strings.Repeat("\x00", 8), strings.Repeat("\x00", 100), strings.Repeat("\xff", 100), "\x00\x00\x00\x01"}
	for c := range 256 {
		wrong = append(wrong, string([]byte{byte(c)}))
	}
	for _, w := range wrong {
		for _, behind := range []bool{false, true} {
			d, _ := stocked(t)
			for _, file := range d.List("log.") {
				was, _ := d.Read(file)
				data := w
				if behind {
					data = string(was) + w
				}
				lay(t, d, file, data)
				refused(t, file, d, "log", api.ErrTorn)
				lay(t, d, file, string(was))
			}
			opened(t, d, "log")
		}
	}
}

// P14.1: a store's bytes, one of which is another, are no store's.
func TestTornByOneByte(t *testing.T) {
	d, m := stocked(t)
	b, _ := d.Read("log.log")
	for i := range b {
		for _, x := range []byte{1, 2, 4, 8, 16, 32, 64, 128, 255, b[i]} {
			if x != 0 {
				data := []byte(string(b))
				data[i] ^= x
				lay(t, d, "log.log", string(data))
				refused(t, "one byte", d, "log", api.ErrTorn)
			}
		}
	}
	lay(t, d, "log.log", string(b))
	alike(t, "as it was", opened(t, d, "log"), m[3])
}

// P14.1, P14.4: the first bytes of a store's file are a store's where a batch ends, and the first batches then; else none's.
func TestTornByEnd(t *testing.T) {
	d, m := stocked(t)
	b, _ := d.Read("log.log")
	at := 0
	for end := range len(b) + 1 {
		lay(t, d, "log.log", string(b[:end]))
		s, e := kv.Open(d, "log")
		if e == api.OK {
			alike(t, "first batches", s, m[at])
			at++
			continue
		}
		refused(t, "first bytes", d, "log", api.ErrTorn)
	}
	if at != len(m) {
		t.Errorf("%d first parts are a store's", at)
	}
}

// P14.1: frames by the bytes: those that a store may have written, and such as say what may not be, with the right sum.
func TestTornByFrames(t *testing.T) {
	k, v := strings.Repeat("k", 200), strings.Repeat("v", mostOf)
	good := framed(written(1, 2, "av"))
	for _, c := range []struct {
		what, data string
		m          model
	}{
		{"one", good, model{{"a", "v"}}},
		{"no value", framed(written(1, 1, "a")), model{{"a", ""}}},
		{"gone", good + framed(written(1, 0, "a")), nil},
		{"gone that never was", framed(written(1, 0, "b")) + good, model{{"a", "v"}}},
		{"two writes", framed(written(1, 2, "av") + written(2, 3, "bbww")), model{{"a", "v"}, {"bb", "ww"}}},
		{"the longest", framed(written(200, mostOf+1, k+v)), model{{k, v}}},
	} {
		d := drive.New(roomy)
		lay(t, d, "log.log", c.data)
		alike(t, c.what, opened(t, d, "log"), c.m)
	}
	for what, data := range map[string]string{
		"no writes":                     framed(""),
		"no writes behind one":          good + framed(""),
		"no key":                        framed(written(0, 2, "v")),
		"no key, gone":                  framed(written(0, 0, "")),
		"too long a key":                framed(written(201, 2, k+"kv")),
		"the longest key":               framed(written(255, 2, k+k[:55]+"v")),
		"too long a value":              framed(written(1, mostOf+2, "a"+v+"v")),
		"less value than is told":       framed(written(1, 3, "av")),
		"less key than is told":         framed(written(3, 1, "av")),
		"less value, a write behind":    framed(written(1, 100, "a"+written(1, 2, "bw"))),
		"less key, a write behind":      framed(written(100, 2, written(1, 2, "bw"))),
		"more value than is told":       framed(written(1, 2, "avv")),
		"a number that ends":            framed("\x01\x00\x00"),
		"a write, and a wrong one":      framed(written(1, 2, "av") + written(0, 2, "v")),
		"a wrong write, and a right":    framed(written(0, 1, "") + written(1, 2, "av")),
		"a wrong frame, and a right":    framed(written(0, 1, "")) + good,
		"another sum":                   good[:7] + string(good[7]^1) + good[8:],
		"one frame ends in the other's": good[:len(good)-1] + good,
		"a byte is missing":             good[1:],
	} {
		for _, file := range []string{"log.log", "log.new"} {
			d := drive.New(roomy)
			lay(t, d, "log.log", good)
			lay(t, d, file, data)
			refused(t, what, d, "log", api.ErrTorn)
		}
	}
}

// P14.1: where the file of what was written anew stands alone, the store's own is lost.
func TestTornWithoutLog(t *testing.T) {
	for _, data := range []string{"", framed(written(1, 2, "av"))} {
		d := drive.New(roomy)
		lay(t, d, "log.new", data)
		refused(t, "no log", d, "log", api.ErrTorn)
	}
}

// P14.1: of what was written anew, and is not the log yet, nothing stands; it is put away.
func TestWrittenAnewIsNoLog(t *testing.T) {
	d, m := stocked(t)
	used := d.Used()
	lay(t, d, "log.new", framed(written(1, 2, "av"))+framed(written(4, 0, "key0")))
	for range 2 {
		alike(t, "opened", opened(t, d, "log"), m[3])
		if d.Used() != used {
			t.Errorf("%d bytes, not %d", d.Used(), used)
		}
	}
}

// P14.1: what is torn is told, and no deed is done: the power does not go.
func TestTornIsNoDeed(t *testing.T) {
	d, _ := stocked(t)
	lay(t, d, "log.log", "torn")
	d.Remove("log.new")
	d.Arm(0)
	for range 2 {
		refused(t, "armed", d, "log", api.ErrTorn)
	}
}
