package msg

import (
	"tabellion/api"
	"tabellion/bin"
	"tabellion/cmd"
	"tabellion/quit"
)

// longest is how many bytes the text of an entry has at most, where it is read.
const longest = 128

// hand is what a walk through a message's fields has each part go through. It is of two kinds: one lays down the part that
// it is given, and answers it; one takes no heed of that, and answers what it reads. Both give up, if that can't be.
type hand interface {
	octet(c byte) byte
	number(n uint64) uint64
	text(b []byte, most int) []byte
	entry(e api.Entry) api.Entry
}

// writer is the hand that lays down.
type writer struct{ laid []byte }

func (w *writer) octet(c byte) byte {
	w.laid = append(w.laid, c)
	return c
}

func (w *writer) number(n uint64) uint64 {
	w.laid = append(w.laid, bin.Num(n)...)
	return n
}

func (w *writer) text(b []byte, most int) []byte {
	ask(len(b) <= most, api.ErrLong)
	w.laid = append(w.laid, bin.Raw(b)...)
	return b
}

func (w *writer) entry(e api.Entry) api.Entry {
	w.text(quit.Take(cmd.Put(e)), longest)
	return e
}

// reader is the hand that reads.
type reader struct{ from *bin.Reader }

func (r reader) octet(byte) byte {
	return quit.Take(r.from.Byte())
}

func (r reader) number(uint64) uint64 {
	return quit.Take(r.from.Num())
}

func (r reader) text(_ []byte, most int) []byte {
	return quit.Take(r.from.Raw(most))
}

func (r reader) entry(api.Entry) api.Entry {
	return quit.Take(cmd.Get(r.text(nil, longest)))
}
