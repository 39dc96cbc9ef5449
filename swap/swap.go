// Package swap holds what cells and vaults (layers 10 and 11) have in common: one text on a disk that is put in the
// place of another as a whole, and for sure.
package swap

import (
	"bytes"

	"tabellion/api"
	"tabellion/disk"
	"tabellion/owner"
)

// File of a text. It is never written to: another text is written beside it, and takes its place by a rename, which a
// crash keeps whole or not at all.
type File struct {
	d     *disk.Disk
	name  string
	text  []byte // also for Get when the disk is down
	there bool
	over  bool
}

// Open the file of an owner; ErrArg, ErrLost.
func Open(d *disk.Disk, name string) (*File, api.Errno) {
	if !owner.IsName(name) {
		return nil, api.ErrArg
	}
	f := &File{d: d, name: name}
	text, errno := d.Read(f.place())
	switch errno {
	case api.OK:
		f.text, f.there = text, true
	case api.ErrNone: // there never was one
	default:
		return nil, api.ErrLost
	}
	if f.sweep() != api.OK {
		return nil, api.ErrLost
	}
	return f, api.OK
}

// sweep away what a Put that was lost left beside, since that may take much room. It needs no Sync: what a crash brings
// back is looked at by nobody, and the next Open takes it away again.
func (f *File) sweep() api.Errno {
	errno := f.d.Remove(f.beside())
	if errno == api.ErrNone {
		return api.OK
	}
	return errno
}

// Get the text; false: there never was one.
func (f *File) Get() ([]byte, bool) {
	return bytes.Clone(f.text), f.there
}

// Over tells whether no text is taken any more, since one was lost.
func (f *File) Over() bool {
	return f.over
}

// Put a text in the place of the one there; ErrLost, ErrFull.
func (f *File) Put(text []byte) api.Errno {
	if f.over {
		return api.ErrLost
	}
	switch f.replace(text) {
	case api.OK:
		f.text, f.there = bytes.Clone(text), true
		return api.OK
	case api.ErrFull: // all is as it was
		return api.ErrFull
	}
	// A file that is missing, say, tells too that the disk isn't the one that this file left.
	f.over = true
	return api.ErrLost
}

// replace what lies on the disk. Only the write can lack room, and ahead of it nothing is done.
func (f *File) replace(text []byte) api.Errno {
	if errno := f.d.Write(f.beside(), 0, text); errno != api.OK {
		return errno
	}
	// A crash may have brought back a longer text that was left here.
	if errno := f.d.Cut(f.beside(), len(text)); errno != api.OK {
		return errno
	}
	// A crash may keep the rename without what is ahead of it: the text must be sure by then.
	if errno := f.d.Sync(); errno != api.OK {
		return errno
	}
	if errno := f.d.Rename(f.beside(), f.place()); errno != api.OK {
		return errno
	}
	return f.d.Sync()
}

// place answers the name under which the text lies.
func (f *File) place() string {
	return owner.File(f.name, "now")
}

// beside answers the name under which the text lies that is to take its place.
func (f *File) beside() string {
	return owner.File(f.name, "new")
}
