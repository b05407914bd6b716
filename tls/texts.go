package tls

import (
	"bytes"
	"iter"

	"pantile/api"
)

const (
	textWidth = 2
	mostText  = 1<<(8*textWidth) - 1
)

// Join is texts, one behind the other.
func Join(l [][]byte) ([]byte, api.Errno) {
	var out []byte
	for _, text := range l {
		if len(text) > mostText {
			return nil, api.ErrArg
		}
		out = append(put(out, textWidth, len(text)), text...)
	}
	return out, api.OK
}

// Split is the texts that were joined.
func Split(b []byte) ([][]byte, api.Errno) {
	var out [][]byte
	for text, whole := range texts(b) {
		if !whole {
			return nil, api.ErrShort
		}
		// A piece of what was handed in would keep it.
		out = append(out, bytes.Clone(text))
	}
	return out, api.OK
}

// texts tells joined texts one by one, and whether each is whole; one that is not is the last.
func texts(b []byte) iter.Seq2[[]byte, bool] {
	return func(yield func([]byte, bool) bool) {
		for rest, whole := b, true; whole && len(rest) > 0; {
			var text []byte
			text, rest, whole = cut(rest, textWidth)
			if !yield(text, whole) {
				return
			}
		}
	}
}

// cut is a text whose length stands ahead of it in so many bytes, and what stands behind it; not ok, if the bytes end too soon.
func cut(b []byte, width int) (text, rest []byte, ok bool) {
	if len(b) < width {
		return nil, nil, false
	}
	n, rest := number(b[:width]), b[width:]
	if len(rest) < n {
		return nil, nil, false
	}
	return rest[:n], rest[n:], true
}

// number is the number of bytes, the highest first. One of eight bytes may come out below 0, as no time may be.
func number(b []byte) (n int) {
	for _, c := range b {
		n = n<<8 | int(c)
	}
	return n
}

// put puts numbers behind bytes, each in so many of its lowest bytes, the highest first.
func put(out []byte, width int, numbers ...int) []byte {
	for _, n := range numbers {
		for at := 8 * (width - 1); at >= 0; at -= 8 {
			out = append(out, byte(n>>at))
		}
	}
	return out
}
