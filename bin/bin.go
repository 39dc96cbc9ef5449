// Package bin is layer 1: numbers and texts as bytes, each in one form. See shared/doc/01-bin.md.
package bin

import (
	"math/bits"

	"tabellion/api"
	"tabellion/quit"
)

// widest is how many bytes the greatest number takes.
const widest = 8

// Num answers the bytes of a number: how many it takes, and these, the highest first.
func Num(n uint64) []byte {
	k := (bits.Len64(n) + 7) / 8
	out := make([]byte, 1+k)
	out[0] = byte(k)
	for i := k; i > 0; i-- {
		out[i] = byte(n)
		n >>= 8
	}
	return out
}

// Raw answers the bytes of a text: those of its length, and it.
func Raw(b []byte) []byte {
	return append(Num(uint64(len(b))), b...)
}

// Reader reads bytes from the left. Behind an error it is stuck.
type Reader struct {
	b     []byte
	at    int       // the place of the next byte
	stuck api.Errno // what was answered first; OK: it isn't stuck
}

// New answers a reader that stands ahead of the first byte.
func New(b []byte) *Reader {
	// A copy, since what becomes of b later must be nothing to the reader.
	own := make([]byte, len(b))
	copy(own, b)
	return &Reader{b: own}
}

// Byte answers the byte that is next; ErrShort.
func (r *Reader) Byte() (b byte, errno api.Errno) {
	errno = r.attempt(func(r *Reader) { b = r.next() })
	return b, errno
}

// Num answers the number that is next; ErrShort, ErrForm.
func (r *Reader) Num() (n uint64, errno api.Errno) {
	errno = r.attempt(func(r *Reader) { n = r.number() })
	return n, errno
}

// Raw answers the text that is next, of at most so many bytes; ErrShort, ErrForm, ErrLong.
func (r *Reader) Raw(most int) (text []byte, errno api.Errno) {
	errno = r.attempt(func(r *Reader) { text = r.text(most) })
	return text, errno
}

// End asks whether nothing is left; ErrTail.
func (r *Reader) End() api.Errno {
	return r.attempt(func(r *Reader) {
		if r.Left() > 0 {
			quit.Must(api.ErrTail)
		}
	})
}

// Left tells how many bytes are left.
func (r *Reader) Left() int {
	if r == nil {
		return 0
	}
	return len(r.b) - r.at
}

// attempt does one reading. If it gives up, the reader is stuck from then on, and stands where it stood ahead of it.
func (r *Reader) attempt(reading func(*Reader)) api.Errno {
	if r == nil {
		r = &Reader{}
	}
	if r.stuck != api.OK {
		return r.stuck
	}
	at := r.at
	errno := quit.Caught(func() { reading(r) })
	if errno != api.OK {
		r.at, r.stuck = at, errno
	}
	return errno
}

// next takes one byte, or gives up.
func (r *Reader) next() byte {
	if r.Left() == 0 {
		quit.Must(api.ErrShort)
	}
	c := r.b[r.at]
	r.at++
	return c
}

// number takes one number, or gives up.
func (r *Reader) number() uint64 {
	k := int(r.next())
	if k > widest {
		quit.Must(api.ErrForm)
	}
	var n uint64
	for i := range k {
		c := r.next()
		if i == 0 && c == 0 {
			quit.Must(api.ErrForm) // the number has a shorter form
		}
		n = n<<8 | uint64(c)
	}
	return n
}

// text takes one text of at most so many bytes, or gives up.
func (r *Reader) text(most int) []byte {
	n := r.number()
	if n > uint64(max(most, 0)) {
		quit.Must(api.ErrLong)
	}
	if n > uint64(r.Left()) {
		quit.Must(api.ErrShort)
	}
	text := make([]byte, n)
	r.at += copy(text, r.b[r.at:])
	return text
}
