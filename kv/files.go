package kv

import (
	"slices"

	"pantile/api"
)

// owns tells whether files are those of a store: the log comes first, so the spare one never stands there alone.
func (s *Store) owns(names []string) bool {
	own := []string{s.log, s.spare}
	return len(names) <= len(own) && slices.Equal(names, own[:len(names)])
}

// recall lets what the log says be what stands; false: a file is not of frames.
func (s *Store) recall() bool {
	return s.replay(s.log, s.at.take) && s.replay(s.spare, func([]api.Write) {})
}

// replay hands over a file's batches one by one, of one that is not there none; false: it is not of frames.
func (s *Store) replay(file string, batch func([]api.Write)) bool {
	data, _ := s.d.Read(file)
	for b, ok := range frames(string(data)) {
		if !ok {
			return false
		}
		batch(b)
	}
	return true
}

// tidy makes the files that are missing, and the spare one anew, if a Compact that was not ended has left something in it.
func (s *Store) tidy() api.Errno {
	if e := s.ensure(s.log); e != api.OK {
		return e
	}
	if data, _ := s.d.Read(s.spare); len(data) > 0 {
		if e := s.d.Remove(s.spare); e != api.OK {
			return e
		}
	}
	if e := s.ensure(s.spare); e != api.ErrFull {
		return e
	}
	return api.OK // a store that the power has left without it is opened even where no file may be made: Compact tells of it then
}

// ensure makes a file, if it is not there.
func (s *Store) ensure(file string) api.Errno {
	if e := s.d.Create(file); e != api.ErrExist {
		return e
	}
	return api.OK
}

// write puts a batch behind a file, in one piece: so the power leaves all of it, or nothing. A batch without writes is no frame.
func (s *Store) write(file string, batch []api.Write) api.Errno {
	if len(batch) == 0 {
		return api.OK
	}
	if e := s.d.Append(file, frame(batch)); e != api.OK {
		return e
	}
	return s.d.Sync(file)
}
