package kv

import (
	"iter"
	"slices"

	"pantile/api"
)

// A frame is a batch as bytes: how many bytes its writes are, and their sum; of each write how many bytes its key is, how many its value is and one more (0: it is gone), its key, its value. Numbers stand with the highest byte first.
const (
	manyBytes  = 4
	sumBytes   = 4
	keyBytes   = 1
	valueBytes = 3
)

// frame is a batch's.
func frame(batch []api.Write) []byte {
	var body []byte
	for _, w := range batch {
		body = append(body, number(len(w.Key), keyBytes)...)
		body = append(body, number(after(w), valueBytes)...)
		body = append(body, w.Key...)
		body = append(body, w.Value...)
	}
	return slices.Concat(number(len(body), manyBytes), number(sum(string(body)), sumBytes), body)
}

// after is what stands for a write's value ahead of it.
func after(w api.Write) int {
	if w.Gone {
		return 0
	}
	return len(w.Value) + 1
}

// number is a number in so many bytes.
func number(n, many int) []byte {
	out := make([]byte, many)
	for i := range slices.Backward(out) {
		out[i] = byte(n)
		n >>= 8
	}
	return out
}

// sum tells bytes from others: where one alone is another, it is another, too (FNV-1a).
func sum(s string) int {
	n := uint32(2166136261)
	for i := range len(s) {
		n = (n ^ uint32(s[i])) * 16777619
	}
	return int(n)
}

// frames tells a log's batches one by one; where its bytes are no frame's, none and false, and no more.
func frames(log string) iter.Seq2[[]api.Write, bool] {
	return func(yield func([]api.Write, bool) bool) {
		r := reader{left: log}
		for len(r.left) > 0 {
			batch := r.frame()
			if !yield(batch, !r.torn) {
				return
			}
		}
	}
}

// reader takes what bytes say from the front on.
type reader struct {
	left string
	torn bool // something was not as a store writes it: nothing is left then
}

// frame takes a frame.
func (r *reader) frame() []api.Write {
	many, want := r.number(manyBytes), r.number(sumBytes)
	body := reader{left: r.bytes(many)}
	if len(body.left) == 0 || sum(body.left) != want {
		return r.tear()
	}
	var batch []api.Write
	for len(body.left) > 0 {
		batch = append(batch, body.write())
	}
	if body.torn {
		return r.tear()
	}
	return batch
}

// write takes a write.
func (r *reader) write() api.Write {
	key, value := r.number(keyBytes), r.number(valueBytes)
	w := api.Write{Key: r.bytes(key), Gone: value == 0}
	w.Value = r.bytes(max(value-1, 0))
	if mayNotBe(w) {
		r.tear()
	}
	return w
}

// number takes a number of so many bytes.
func (r *reader) number(many int) int {
	n := 0
	for _, b := range []byte(r.bytes(many)) {
		n = n<<8 | int(b)
	}
	return n
}

// bytes takes so many bytes, if there are as many.
func (r *reader) bytes(many int) string {
	if many > len(r.left) {
		r.tear()
		return ""
	}
	out := r.left[:many]
	r.left = r.left[many:]
	return out
}

// tear leaves nothing.
func (r *reader) tear() []api.Write {
	r.left, r.torn = "", true
	return nil
}
