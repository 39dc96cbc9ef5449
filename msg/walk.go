package msg

import (
	"tabellion/api"
	"tabellion/cmd"
	"tabellion/quit"
)

// walk has a message's fields go through a hand, in the order of their bytes, and answers the message of what the hand
// answers, or gives up. Each field is asked for its range ahead of the next one, so that the first fault is the one told.
func walk(h hand, m api.Msg) api.Msg {
	told := api.Msg{Kind: int(h.octet(byte(m.Kind)))}
	ask(api.MsgAsk <= told.Kind && told.Kind <= api.MsgSnap, api.ErrForm)
	told.From = within(h, m.From, 1, api.MaxNodes)
	told.To = within(h, m.To, 1, api.MaxNodes)
	told.Term = within(h, m.Term, 1, api.MaxTerm)
	switch told.Kind {
	case api.MsgAsk:
		told.Index = place(h, m.Index)
		told.LogTerm = place(h, m.LogTerm)
	case api.MsgVote:
		told.Yes = yes(h, m.Yes)
	case api.MsgCopy:
		told.Index = place(h, m.Index)
		told.LogTerm = place(h, m.LogTerm)
		told.Commit = place(h, m.Commit)
		told.Stamp = h.number(m.Stamp)
		told.Entries = entries(h, m.Entries)
	case api.MsgKept:
		told.Yes = yes(h, m.Yes)
		told.Index = place(h, m.Index)
		told.Stamp = h.number(m.Stamp)
	case api.MsgSnap:
		told.Index = place(h, m.Index)
		told.LogTerm = place(h, m.LogTerm)
		told.Stamp = h.number(m.Stamp)
		told.Members = members(h, m.Members)
		told.Image = h.text(m.Image, api.MaxImage)
	}
	return told
}

// ask gives up where something doesn't hold.
func ask(holds bool, errno api.Errno) {
	if !holds {
		quit.Must(errno)
	}
}

// within has a number go through a hand that must lie from one to another.
func within(h hand, n, least, most uint64) uint64 {
	n = h.number(n)
	ask(least <= n && n <= most, api.ErrForm)
	return n
}

// place has an index of the log, or the term of an entry, go through a hand.
func place(h hand, n uint64) uint64 {
	return within(h, n, 0, api.MaxTerm)
}

// yes has an answer go through a hand.
func yes(h hand, is bool) bool {
	var c byte
	if is {
		c = 1
	}
	c = h.octet(c)
	ask(c <= 1, api.ErrForm)
	return c == 1
}

// entries have their number, and each of them, go through a hand.
func entries(h hand, list []api.Entry) []api.Entry {
	n := h.number(uint64(len(list)))
	ask(n <= api.MaxBatch, api.ErrLong)
	told := make([]api.Entry, n)
	copy(told, list)
	for i, e := range told {
		told[i] = h.entry(e)
	}
	return told
}

// members have their number, and each of them, go through a hand.
func members(h hand, ids []uint64) []uint64 {
	n := within(h, uint64(len(ids)), 1, api.MaxNodes)
	told := make([]uint64, n)
	copy(told, ids)
	for i, id := range told {
		told[i] = h.number(id)
		ask(cmd.Members(told[:i+1]), api.ErrForm)
	}
	return told
}
