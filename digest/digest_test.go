package digest_test

import (
	"bytes"
	"encoding/hex"
	"slices"
	"strings"
	"testing"

	"pantile/digest"
)

// message is so many bytes that are not alike from block to block.
func message(many int) []byte {
	out, x := make([]byte, many), uint32(many)+1
	for i := range out {
		x = x*1664525 + 1013904223
		out[i] = byte(x >> 24)
	}
	return out
}

// written is the hash of which each piece was written.
func written(pieces ...[]byte) *digest.Hash {
	h := digest.New()
	for _, p := range pieces {
		h.Write(p)
	}
	return h
}

// same tells where bytes are not those that were wanted.
func same(t *testing.T, what string, got, want []byte) {
	t.Helper()
	if !bytes.Equal(got, want) {
		t.Errorf("%s: %x, not %x", what, got, want)
	}
}

// told tells where a hash's Sum and Len are not those of the bytes.
func told(t *testing.T, what string, h *digest.Hash, of []byte) {
	t.Helper()
	same(t, what, h.Sum(), digest.Sum256(of))
	if h.Len() != len(of) {
		t.Errorf("%s: Len %d, not %d", what, h.Len(), len(of))
	}
}

// P1.1, P1.2: digests as FIPS 180 and its examples tell them.
func TestKnownDigests(t *testing.T) {
	for _, c := range []struct{ message, sum256, sum512 string }{
		{"",
			"e3b0c44298fc1c149afbf4c8996fb92427ae41e4649b934ca495991b7852b855",
			"cf83e1357eefb8bdf1542850d66d8007d620e4050b5715dc83f4a921d36ce9ce47d0d13c5d85f2b0ff8318d2877eec2f63b931bd47417a81a538327af927da3e"},
		{"abc",
			"ba7816bf8f01cfea414140de5dae2223b00361a396177a9cb410ff61f20015ad",
			"ddaf35a193617abacc417349ae20413112e6fa4e89a97ea20a9eeee64b55d39a2192992a274fc1a836ba3c23a3feebbd454d4423643ce80e2a9ac94fa54ca49f"},
		{"abcdbcdecdefdefgefghfghighijhijkijkljklmklmnlmnomnopnopq",
			"248d6a61d20638b8e5c026930c3e6039a33ce45964ff2167f6ecedd419db06c1",
			"204a8fc6dda82f0a0ced7beb8e08a41657c16ef468b228a8279be331a703c33596fd15c13b1b07f9aa1d3bea57789ca031ad85c7a71dd70354ec631238ca3445"},
		{"abcdefghbcdefghicdefghijdefghijkefghijklfghijklmghijklmnhijklmnoijklmnopjklmnopqklmnopqrlmnopqrsmnopqrstnopqrstu",
			"cf5b16a778af8380036ce59e7b0492370b249b11e8f07a51afac45037afee9d1",
			"8e959b75dae313da8cf4f72814fc143f8f7779c6eb9f7fa17299aeadb6889018501d289e4900f7e4331b99dec4b5433ac7d329eeb6dd26545e96e55b874be909"},
		{strings.Repeat("a", 1000000),
			"cdc76e5c9914fb9281a1c7e284d73e67f1809a48a497200e046d39ccc7112cd0",
			"e718483d0ce769644e2e42c7bc15b4638e1f98b13b2044285632a803afa973ebde0ff244877ea60a4cb0432ce577c31beb009c5c2c49aa2e4eadb217ad8cc09b"},
	} {
		what, data := c.message[:min(len(c.message), 10)], []byte(c.message)
		if got := hex.EncodeToString(digest.Sum256(data)); got != c.sum256 {
			t.Errorf("Sum256 of %q..: %s", what, got)
		}
		if got := hex.EncodeToString(digest.Sum512(data)); got != c.sum512 {
			t.Errorf("Sum512 of %q..: %s", what, got)
		}
		if got := hex.EncodeToString(written(data).Sum()); got != c.sum256 {
			t.Errorf("Sum of %q..: %s", what, got)
		}
	}
}

// P1.1, P1.2: every length up to beyond the third block's end, against the chapter's own words.
func TestEveryLength(t *testing.T) {
	m256, m512 := model256(), model512()
	for many := range 400 {
		data := message(many)
		what := "of " + hex.EncodeToString(data)
		same(t, "Sum256 "+what, digest.Sum256(data), m256.sum(data))
		same(t, "Sum512 "+what, digest.Sum512(data), m512.sum(data))
		same(t, "Sum "+what, written(data).Sum(), m256.sum(data))
	}
}

// P1.1: a length whose bits take more than two bytes, and bytes that are all noughts or all ones.
func TestGreaterLengthsAndEvenBytes(t *testing.T) {
	m256, m512 := model256(), model512()
	for _, data := range [][]byte{message(70000), make([]byte, 256), bytes.Repeat([]byte{255}, 256), {0}, {128}, {255}} {
		same(t, "Sum256", digest.Sum256(data), m256.sum(data))
		same(t, "Sum512", digest.Sum512(data), m512.sum(data))
		same(t, "Sum", written(data).Sum(), m256.sum(data))
	}
}

// P1.1: nothing was written, or nothing but empty pieces.
func TestNothingWritten(t *testing.T) {
	told(t, "New", digest.New(), nil)
	told(t, "nil", written(nil), nil)
	told(t, "empty", written([]byte{}, nil, []byte{}), nil)
	h := written([]byte("ab"))
	h.Write(nil)
	h.Write([]byte{})
	told(t, "empty ones behind", h, []byte("ab"))
}

// P1.1: a digest that is told, and then written on, around a block's end.
func TestToldAndWrittenOn(t *testing.T) {
	all := message(300)
	for from := range 140 {
		h := written(all[:from])
		told(t, "at first", h, all[:from])
		told(t, "told again", h, all[:from])
		for to := from; to < len(all); to += 37 {
			h.Write(all[h.Len():to])
			told(t, "written on", h, all[:to])
		}
	}
	h := digest.New()
	for i := range all {
		told(t, "byte by byte", h, all[:i])
		h.Write(all[i : i+1])
	}
	told(t, "byte by byte", h, all)
}

// P1.2: no parts and empty parts; how long digests are.
func TestEmptyParts(t *testing.T) {
	none := [][]byte{}
	for _, c := range []struct {
		what   string
		sum    func(parts ...[]byte) []byte
		first  string
		length int
	}{
		{"Sum256", digest.Sum256, "e3b0c442", 32},
		{"Sum512", digest.Sum512, "cf83e135", 64},
	} {
		for _, got := range [][]byte{c.sum(), c.sum(nil), c.sum([]byte{}), c.sum(nil...), c.sum(none...), c.sum(nil, []byte{}, nil)} {
			if len(got) != c.length || hex.EncodeToString(got[:4]) != c.first {
				t.Errorf("%s of nothing: %x", c.what, got)
			}
		}
		same(t, c.what+" with empty parts", c.sum(nil, []byte("a"), []byte{}, nil, []byte("bc"), nil), c.sum([]byte("abc")))
		if got := c.sum([]byte("abc")); len(got) != c.length {
			t.Errorf("%s: %d bytes", c.what, len(got))
		}
	}
}

// P1.2: parts are taken one behind the other, in their order.
func TestOrderOfParts(t *testing.T) {
	a, b := message(100), message(200)
	ab, ba := slices.Concat(a, b), slices.Concat(b, a)
	for what, sum := range map[string]func(parts ...[]byte) []byte{"Sum256": digest.Sum256, "Sum512": digest.Sum512} {
		same(t, what, sum(a, b), sum(ab))
		same(t, what, sum(b, a), sum(ba))
		if bytes.Equal(sum(a, b), sum(b, a)) {
			t.Errorf("%s: the order does not matter", what)
		}
	}
}

// P1.3: bytes that are cut in two, anywhere.
func TestEveryCut(t *testing.T) {
	for _, many := range []int{1, 55, 56, 63, 64, 65, 111, 112, 127, 128, 129, 260} {
		data := message(many)
		sum256, sum512 := digest.Sum256(data), digest.Sum512(data)
		for cut := range many + 1 {
			same(t, "Sum256", digest.Sum256(data[:cut], data[cut:]), sum256)
			same(t, "Sum512", digest.Sum512(data[:cut], data[cut:]), sum512)
			told(t, "Write", written(data[:cut], data[cut:]), data)
		}
	}
}

// P1.3: pieces of each length, and pieces that get longer.
func TestManyPieces(t *testing.T) {
	data := message(1000)
	sum256, sum512 := digest.Sum256(data), digest.Sum512(data)
	for length := 1; length < 300; length++ {
		pieces := slices.Collect(slices.Chunk(data, length))
		same(t, "Sum256", digest.Sum256(pieces...), sum256)
		same(t, "Sum512", digest.Sum512(pieces...), sum512)
		told(t, "Write", written(pieces...), data)
	}
	var growing [][]byte
	for from, n := 0, 0; from < len(data); n++ {
		to := min(from+n, len(data))
		growing = append(growing, data[from:to])
		from = to
	}
	same(t, "Sum256", digest.Sum256(growing...), sum256)
	same(t, "Sum512", digest.Sum512(growing...), sum512)
	told(t, "Write", written(growing...), data)
}

// R4: what is handed in is not changed, its spare room neither.
func TestHandedInIsNotChanged(t *testing.T) {
	for _, many := range []int{0, 1, 63, 64, 65, 127, 128, 129, 300} {
		room := message(many + 200)
		before := bytes.Clone(room)
		data := room[:many]
		parts := [][]byte{data[:many/2], data[many/2:], []byte("spare")}
		digest.Sum256(parts[:2]...)
		digest.Sum512(parts[:2]...)
		written(parts[:2]...).Sum()
		same(t, "bytes", room, before)
		same(t, "first part", parts[0], before[:many/2])
		same(t, "second part", parts[1], before[many/2:many])
		same(t, "spare part", parts[2], []byte("spare"))
	}
}

// R4: what is handed in is not kept.
func TestHandedInIsNotKept(t *testing.T) {
	for _, many := range []int{1, 63, 64, 65, 127, 128, 129, 300} {
		want, data := message(many), message(many)
		h := written(data)
		sum256, sum512 := digest.Sum256(data), digest.Sum512(data)
		for i := range data {
			data[i] ^= 255
		}
		told(t, "Write", h, want)
		same(t, "Sum256", sum256, digest.Sum256(want))
		same(t, "Sum512", sum512, digest.Sum512(want))
	}
}

// R4: each answer is new memory, its spare room too.
func TestAnswersAreNewMemory(t *testing.T) {
	data := message(100)
	h := written(data)
	for what, sum := range map[string]func() []byte{
		"Sum":    h.Sum,
		"Sum256": func() []byte { return digest.Sum256(data) },
		"Sum512": func() []byte { return digest.Sum512(data) },
	} {
		first, second := sum(), sum()
		want := bytes.Clone(second)
		for i := range first[:cap(first)] {
			first[:cap(first)][i] ^= 255
		}
		same(t, what+" told ahead", second, want)
		same(t, what+" told behind", sum(), want)
	}
	told(t, "the hash itself", h, message(100))
	h.Write(data)
	told(t, "the hash written on", h, slices.Concat(data, data))
}

// R5: hashes do not hang on one another, nor on what was told besides.
func TestHashesAreApart(t *testing.T) {
	left, right := digest.New(), digest.New()
	a, b := message(200), message(201)
	for i := range a {
		left.Write(a[i : i+1])
		digest.Sum512(a)
		right.Write(b[i : i+1])
		digest.Sum256(b)
	}
	told(t, "left", left, a)
	told(t, "right", right, b[:200])
}
