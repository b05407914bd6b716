package tls_test

import (
	"bytes"
	"encoding/binary"
	"encoding/hex"
	"fmt"
	"io"
	"math"
	"slices"
	"strings"
	"testing"

	"pantile/api"
	"pantile/tls"
)

// chance tells numbers that seem to come by chance, the same ones each time.
type chance uint64

// below is a number from 0 to n - 1.
func (c *chance) below(n int) int {
	*c = *c*6364136223846793005 + 1442695040888963407
	return int(uint64(*c)>>33) % n
}

// pattern is so many bytes that go from a first one on by a step.
func pattern(n, step, first int) []byte {
	out := make([]byte, n)
	for i := range out {
		out[i] = byte(first + i*step + i*i/7)
	}
	return out
}

// times are the times that the document names, and others around them and around each power of two.
func times() []int {
	all := []int{-1, 0, 1 << 50, 1<<50 + 1, math.MinInt, math.MinInt + 1, math.MaxInt, math.MaxInt - 1, 0x0102030405060, 1721000000000}
	for bits := range 63 {
		all = append(all, 1<<bits-1, 1<<bits, 1<<bits+1, -1<<bits)
	}
	return all
}

// isTime tells whether a time may be, by the chapter's words.
func isTime(n int) bool { return n >= 0 && n <= 1125899906842624 }

// ofDigits are the bytes of digits of sixteen, blanks between them or not.
func ofDigits(s string) []byte {
	b, err := hex.DecodeString(strings.ReplaceAll(s, " ", ""))
	if err != nil {
		panic(err)
	}
	return b
}

// modelLeaf are a leaf's bytes, by the chapter's words.
func modelLeaf(l api.Leaf) ([]byte, bool) {
	if !isTime(l.Time) || l.Cert == "" || len(l.Cert) > 1000 {
		return nil, false
	}
	return ofDigits(fmt.Sprintf("00 00 %016x 0000 %06x %x 0000", l.Time, len(l.Cert), l.Cert)), true
}

// modelHead is what is signed of a head, by the chapter's words.
func modelHead(h api.Head) ([]byte, bool) {
	if !isTime(h.Time) || h.Size < 0 || h.Size > 1048576 || len(h.Root) != 32 {
		return nil, false
	}
	return ofDigits(fmt.Sprintf("00 01 %016x %016x %x", h.Time, h.Size, h.Root)), true
}

// modelParse is the leaf of bytes, which are all read ahead of being looked at.
func modelParse(b []byte) (api.Leaf, api.Errno) {
	r := bytes.NewReader(b)
	var fixed struct {
		Version, Kind uint8
		Time          uint64
		Entry         uint16
		High          uint8
		Low           uint16
	}
	if binary.Read(r, binary.BigEndian, &fixed) != nil {
		return api.Leaf{}, api.ErrShort
	}
	size := int(fixed.High)*65536 + int(fixed.Low)
	cert, _ := io.ReadAll(io.LimitReader(r, int64(size)))
	var more uint16
	if len(cert) < size || binary.Read(r, binary.BigEndian, &more) != nil {
		return api.Leaf{}, api.ErrShort
	}
	if fixed.Version > 0 || fixed.Kind > 0 || fixed.Entry > 0 || more > 0 || r.Len() > 0 || fixed.Time > 1<<50 || size == 0 || size > 1000 {
		return api.Leaf{}, api.ErrBytes
	}
	return api.Leaf{Time: int(fixed.Time), Cert: string(cert)}, api.OK
}

// modelJoin are joined texts, by the chapter's words.
func modelJoin(l [][]byte) []byte {
	var out bytes.Buffer
	for _, text := range l {
		out.Write(ofDigits(fmt.Sprintf("%04x", len(text))))
		out.Write(text)
	}
	return out.Bytes()
}

// modelSplit are the texts that were joined, the first one and what is split of the rest.
func modelSplit(b []byte) ([][]byte, bool) {
	if len(b) == 0 {
		return nil, true
	}
	if len(b) == 1 || len(b) < 2+int(binary.BigEndian.Uint16(b)) {
		return nil, false
	}
	end := 2 + int(binary.BigEndian.Uint16(b))
	others, ok := modelSplit(b[end:])
	if !ok {
		return nil, false
	}
	return append([][]byte{b[2:end]}, others...), true
}

// sameTexts tells whether two lists of texts have the same ones.
func sameTexts(a, b [][]byte) bool { return slices.EqualFunc(a, b, bytes.Equal) }

// answers looks at bytes and an error: at bytes that are wanted, or, where nothing may be told, at ErrArg.
func answers(t *testing.T, what string, got []byte, e api.Errno, want []byte, right bool) {
	t.Helper()
	if right && (!bytes.Equal(got, want) || e != api.OK) || !right && (len(got) != 0 || e != api.ErrArg) {
		t.Errorf("%s: %.100x %d, not %.100x %v", what, got, e, want, right)
	}
}

// looksLeaf looks at a leaf's bytes, at what is signed of it, and at what is read of its bytes.
func looksLeaf(t *testing.T, l api.Leaf) (right bool) {
	t.Helper()
	want, right := modelLeaf(l)
	what := fmt.Sprintf("of %d, %d bytes (%.20q)", l.Time, len(l.Cert), l.Cert)
	b, e := tls.Leaf(l)
	answers(t, "Leaf "+what, b, e, want, right)
	s, e := tls.Signed(l)
	answers(t, "Signed "+what, s, e, want, right)
	if !right {
		return false
	}
	if again, e := tls.Parse(want); again != l || e != api.OK {
		t.Errorf("Parse %s: %d %.20q %d", what, again.Time, again.Cert, e)
	}
	return true
}

// looksHead looks at what is signed of a head.
func looksHead(t *testing.T, h api.Head) (right bool) {
	t.Helper()
	want, right := modelHead(h)
	b, e := tls.Head(h)
	answers(t, fmt.Sprintf("Head of %d, %d, %.40x", h.Size, h.Time, h.Root), b, e, want, right)
	return right
}

// parses looks at what is read of bytes, by the model.
func parses(t *testing.T, b []byte) api.Errno {
	t.Helper()
	l, e := tls.Parse(b)
	want, right := modelParse(b)
	if l != want || e != right {
		t.Errorf("Parse of %d bytes, %.40x: %d %.20q %d, not %d %.20q %d", len(b), b, l.Time, l.Cert, e, want.Time, want.Cert, right)
	}
	return right
}

// parsesTo looks that bytes are answered with an error, by the call and by the model.
func parsesTo(t *testing.T, e api.Errno, b []byte) {
	t.Helper()
	if got := parses(t, b); got != e {
		t.Errorf("Parse of %d bytes, %.40x: %d, not %d", len(b), b, got, e)
	}
}

// splits looks at what bytes are split in, by the model.
func splits(t *testing.T, b []byte) (right bool) {
	t.Helper()
	l, e := tls.Split(b)
	want, right := modelSplit(b)
	if right && (!sameTexts(l, want) || e != api.OK) || !right && (len(l) != 0 || e != api.ErrShort) {
		t.Errorf("Split of %d bytes, %.40x: %.200x %d, not %.200x %v", len(b), b, l, e, want, right)
	}
	return right
}

// joins looks at joined texts, and at what they are split in.
func joins(t *testing.T, l ...[]byte) {
	t.Helper()
	want := modelJoin(l)
	b, e := tls.Join(l)
	answers(t, fmt.Sprintf("Join of %d texts", len(l)), b, e, want, true)
	if again, e := tls.Split(want); !sameTexts(again, l) || e != api.OK {
		t.Errorf("Split of %d joined texts: %d, %d", len(l), len(again), e)
	}
}
