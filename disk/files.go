package disk

import "bytes"

// What is done to files.
const (
	write = iota
	cut
	remove
	rename
)

// operation that can be done again behind a crash.
type operation struct {
	kind     int
	name, to string
	at       int // where a write begins, or how many bytes a cut leaves
	text     []byte
}

// kept answers the operations that a crash leaves, the last one in part.
func kept(waiting []operation, keep []bool, torn int) []operation {
	var list []operation
	for i, op := range waiting {
		if i < len(keep) && keep[i] {
			list = append(list, op)
		}
	}
	if len(list) > 0 {
		last := &list[len(list)-1]
		last.text = last.text[:min(max(torn, 0), len(last.text))]
	}
	return list
}

// files by their names.
type files struct {
	texts map[string][]byte
	used  int // bytes of all of them
}

// noFiles answers a place for files that holds none.
func noFiles() files {
	return files{texts: make(map[string][]byte)}
}

// copied answers the same files in memory of their own.
func (f *files) copied() files {
	same := files{texts: make(map[string][]byte, len(f.texts)), used: f.used}
	for name, text := range f.texts {
		same.texts[name] = bytes.Clone(text)
	}
	return same
}

// has tells whether there is a file of that name.
func (f *files) has(name string) bool {
	_, there := f.texts[name]
	return there
}

// usedWith answers how many bytes would be used behind a write of n bytes.
func (f *files) usedWith(name string, at, n int) int {
	if n == 0 {
		return f.used
	}
	before := len(f.texts[name])
	return f.used - before + max(before, at+n)
}

// doAll does operations in their order.
func (f *files) doAll(list []operation) {
	for _, op := range list {
		f.do(op)
	}
}

// do an operation; where its file is missing, which only a crash brings about, all but a write do nothing.
func (f *files) do(op operation) {
	if op.kind == write {
		f.write(op.name, op.at, op.text)
		return
	}
	if !f.has(op.name) {
		return
	}
	text := f.texts[op.name]
	switch op.kind {
	case cut:
		f.set(op.name, text[:min(op.at, len(text))])
	case remove:
		f.drop(op.name)
	case rename:
		f.drop(op.name)
		f.set(op.to, text)
	}
}

// write lays bytes over what is at a place and behind it, and zeros where nothing is ahead of it.
func (f *files) write(name string, at int, b []byte) {
	text := f.texts[name]
	if len(b) > 0 {
		text = append(text, make([]byte, max(at-len(text), 0))...)
		over := copy(text[at:], b)
		text = append(text, b[over:]...)
	}
	f.set(name, text)
}

// set a file to be this text.
func (f *files) set(name string, text []byte) {
	f.used += len(text) - len(f.texts[name])
	f.texts[name] = text
}

// drop a file.
func (f *files) drop(name string) {
	f.used -= len(f.texts[name])
	delete(f.texts, name)
}
