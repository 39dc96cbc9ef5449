package store

import (
	"slices"

	"tabellion/api"
	"tabellion/bin"
	"tabellion/quit"
)

// front is what stands ahead of the log's entries. It lies on the disk as one text, so that no part of it is there
// without the others.
type front struct {
	base, term uint64
	first      []uint64
	image      []byte
	// start is the number of the record that the entry base + 1 has, or is to have. Records are numbered one by one,
	// while a base may be far behind the last entry: so the one isn't told by the other.
	start uint64
}

// textOf answers the text of a front.
func textOf(f front) []byte {
	ids := make([]byte, len(f.first))
	for i, id := range f.first {
		ids[i] = byte(id) // at most MaxNodes
	}
	return slices.Concat(bin.Num(f.base), bin.Num(f.term), bin.Num(f.start), bin.Raw(ids), bin.Raw(f.image))
}

// frontIn reads a front, or gives up.
func frontIn(text []byte) front {
	r := bin.New(text)
	f := front{base: quit.Take(r.Num()), term: quit.Take(r.Num()), start: quit.Take(r.Num())}
	for _, id := range quit.Take(r.Raw(api.MaxNodes)) {
		f.first = append(f.first, uint64(id))
	}
	f.image = quit.Take(r.Raw(api.MaxImage))
	quit.Must(r.End())
	return f
}
