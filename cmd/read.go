package cmd

import (
	"tabellion/api"
	"tabellion/bin"
)

// unread is what a reading that gives up panics with. It is a type of its own, so that no other panic is taken for it.
type unread struct{ errno api.Errno }

// must gives up where there is an error.
func must(errno api.Errno) {
	if errno != api.OK {
		panic(unread{errno})
	}
}

// take what was read, or give up.
func take[T any](v T, errno api.Errno) T {
	must(errno)
	return v
}

// ask gives up where what was read can't stand there.
func ask(formed bool) {
	if !formed {
		must(api.ErrForm)
	}
}

// entry reads an entry, or gives up. Each part is asked for its range ahead of the next one, so that the first fault is
// the one that is told.
func entry(r *bin.Reader) api.Entry {
	e := api.Entry{Term: take(r.Num())}
	ask(isTerm(e.Term))
	e.Kind = int(take(r.Byte()))
	switch e.Kind {
	case api.KindNone:
	case api.KindPut:
		e.Client = take(r.Num())
		e.Seq = take(r.Num())
		e.Data = take(r.Raw(api.MaxData))
	case api.KindConf:
		e.Members = members(r)
	default:
		must(api.ErrForm)
	}
	return e
}

// members reads how many there are, and each of them, or gives up.
func members(r *bin.Reader) []uint64 {
	count := take(r.Num())
	ask(isCount(count))
	ids := make([]uint64, count)
	var ahead uint64
	for i := range ids {
		id := take(r.Num())
		ask(isNext(ahead, id))
		ids[i], ahead = id, id
	}
	return ids
}
