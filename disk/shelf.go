package disk

import "slices"

// shelf has files by their names. Its bytes are its own: a file grows where it stands.
type shelf struct {
	files map[string][]byte
	bytes int // of all files, kept as each write asks for it
}

// emptyShelf tells a shelf without files.
func emptyShelf() shelf { return shelf{files: map[string][]byte{}} }

// clone tells a shelf of its own with the same files.
func (s *shelf) clone() shelf {
	c := emptyShelf()
	for name, b := range s.files {
		c.set(name, slices.Clone(b))
	}
	return c
}

// has tells whether there is a file of that name.
func (s *shelf) has(name string) bool {
	_, ok := s.files[name]
	return ok
}

// size tells how many bytes a file has; 0: perhaps there is none.
func (s *shelf) size(name string) int { return len(s.files[name]) }

// names tells all files' names, rising.
func (s *shelf) names() []string {
	var names []string
	for name := range s.files {
		names = append(names, name)
	}
	slices.Sort(names)
	return names
}

// set has a file be b, which is the shelf's from then on.
func (s *shelf) set(name string, b []byte) {
	s.bytes += len(b) - s.size(name)
	s.files[name] = b
}

// grow puts bytes behind a file's.
func (s *shelf) grow(name string, tail []byte) {
	s.set(name, append(s.files[name], tail...))
}

// move gives a file another name, which is not its own.
func (s *shelf) move(from, to string) {
	s.set(to, s.files[from])
	s.bytes -= s.size(from)
	delete(s.files, from)
}

// drop takes a file away.
func (s *shelf) drop(name string) {
	s.bytes -= s.size(name)
	delete(s.files, name)
}
