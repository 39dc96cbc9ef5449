package cmd

import (
	"tabellion/api"
	"tabellion/bin"
	"tabellion/quit"
)

// ask gives up where what was read can't stand there.
func ask(formed bool) {
	if !formed {
		quit.Must(api.ErrForm)
	}
}

// entry reads an entry, or gives up. Each part is asked for its range ahead of the next one, so that the first fault is
// the one that is told.
func entry(r *bin.Reader) api.Entry {
	e := api.Entry{Term: quit.Take(r.Num())}
	ask(isTerm(e.Term))
	e.Kind = int(quit.Take(r.Byte()))
	switch e.Kind {
	case api.KindNone:
	case api.KindPut:
		e.Client = quit.Take(r.Num())
		e.Seq = quit.Take(r.Num())
		e.Data = quit.Take(r.Raw(api.MaxData))
	case api.KindConf:
		e.Members = members(r)
	default:
		quit.Must(api.ErrForm)
	}
	return e
}

// members reads how many there are, and each of them, or gives up.
func members(r *bin.Reader) []uint64 {
	count := quit.Take(r.Num())
	ask(isCount(count))
	ids := make([]uint64, count)
	var ahead uint64
	for i := range ids {
		id := quit.Take(r.Num())
		ask(isNext(ahead, id))
		ids[i], ahead = id, id
	}
	return ids
}
