package drive

// file is what stands at a name: its bytes, and where the safe ones of them end, and each piece behind these.
type file struct {
	data []byte
	ends []int
}

// empty is a file without bytes.
func empty() *file { return &file{ends: []int{0}} }

// pieces is how many pieces there are.
func (f *file) pieces() int { return len(f.ends) - 1 }

// add puts a piece behind.
func (f *file) add(data []byte) {
	f.data = append(f.data, data...)
	f.ends = append(f.ends, len(f.data))
}

// settle makes the first pieces safe, so many of them; the others are lost. It is how many bytes these were.
func (f *file) settle(many int) int {
	end, all := f.ends[many], len(f.data)
	f.data, f.ends = f.data[:end], []int{end}
	return all - end
}
