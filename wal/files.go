package wal

import (
	"strconv"
	"strings"

	"tabellion/api"
	"tabellion/disk"
	"tabellion/frame"
	"tabellion/owner"
	"tabellion/quit"
)

// files of a log. Each record lies in one of its own, called by its number: a write can't begin far inside of a file,
// and a log may be long; a cut needs no room so, and a trim gives all of it back. The first number, but 0, is told by
// the name of an empty file: a rename needs no room either, and a crash keeps it whole or not at all.
type files struct {
	d    *disk.Disk
	name string
}

// recordFront is how the names of records' files begin.
func (f files) recordFront() string {
	return owner.File(f.name, "")
}

// markFront is how the name of the file begins that tells the first number.
func (f files) markFront() string {
	return owner.File(f.name, "f")
}

// called answers the name of the file of a number.
func called(front string, n uint64) string {
	return front + strconv.FormatUint(n, 10)
}

// numberIn answers the number of a file that is called so; false, if it is called otherwise.
func numberIn(front, file string) (uint64, bool) {
	digits, ok := strings.CutPrefix(file, front)
	if !ok {
		return 0, false
	}
	n, err := strconv.ParseUint(digits, 10, 64)
	if err != nil || called(front, n) != file {
		return 0, false
	}
	return n, true
}

// lay a record down.
func (f files) lay(n uint64, rec []byte) {
	text, errno := frame.Lay([][]byte{rec})
	quit.Must(errno)
	quit.Must(f.d.Write(called(f.recordFront(), n), 0, text))
}

// read a record; false, if it isn't there as a whole.
func (f files) read(n uint64) ([]byte, bool) {
	text, errno := f.d.Read(called(f.recordFront(), n))
	if errno == api.ErrNone {
		return nil, false
	}
	quit.Must(errno)
	rec, size, errno := frame.One(text)
	if errno != api.OK || size != len(text) {
		return nil, false
	}
	return rec, true
}

// drop the records from one number to below another, the last one first.
func (f files) drop(from, to uint64) {
	for n := to; n > from; n-- {
		quit.Must(f.d.Remove(called(f.recordFront(), n-1)))
	}
}

// marked answers the first number.
func (f files) marked() uint64 {
	var first uint64
	for _, file := range f.d.List() {
		if n, ok := numberIn(f.markFront(), file); ok {
			first = max(first, n)
		}
	}
	return first
}

// mark another first number than the old one.
func (f files) mark(old, first uint64) {
	switch {
	case old == first:
	case old == 0:
		quit.Must(f.d.Write(called(f.markFront(), first), 0, nil))
	default:
		quit.Must(f.d.Rename(called(f.markFront(), old), called(f.markFront(), first)))
	}
}

// sweep away all but the records from one number to below another, and the mark of the first.
func (f files) sweep(first, next uint64) {
	for _, file := range f.d.List() {
		if strings.HasPrefix(file, f.recordFront()) && !f.isOf(file, first, next) {
			quit.Must(f.d.Remove(file))
		}
	}
}

// isOf tells whether a file is one of those of a log with these numbers.
func (f files) isOf(file string, first, next uint64) bool {
	if n, ok := numberIn(f.recordFront(), file); ok {
		return first <= n && n < next
	}
	n, ok := numberIn(f.markFront(), file)
	return ok && n == first && first > 0
}

// sync all that was done.
func (f files) sync() {
	quit.Must(f.d.Sync())
}
