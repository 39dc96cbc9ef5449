package net_test

import (
	"bytes"
	"math"
	"math/rand"
	"slices"
	"testing"

	"tabellion/api"
	"tabellion/net"
)

const (
	most     = 256 // messages under way
	mostTerm = 1 << 62
)

// vote answers a message that is told by its term.
func vote(from, to, term uint64) api.Msg {
	return api.Msg{Kind: api.MsgVote, From: from, To: to, Term: term, Yes: term%2 == 0}
}

// copied and imaged answer messages with lists, that are told by their terms.
func copied(from, to, term uint64) api.Msg {
	return api.Msg{Kind: api.MsgCopy, From: from, To: to, Term: term, Index: 4, LogTerm: 5, Commit: 6, Stamp: math.MaxUint64, Entries: []api.Entry{
		{Term: 1, Kind: api.KindNone},
		{Term: 2, Kind: api.KindPut, Client: 3, Seq: 4, Data: []byte("abc")},
		{Term: 3, Kind: api.KindConf, Members: []uint64{1, 2, 3}},
	}}
}

func imaged(from, to, term uint64) api.Msg {
	return api.Msg{Kind: api.MsgSnap, From: from, To: to, Term: term, Index: 4, LogTerm: 5, Stamp: 6, Members: []uint64{2, 4, 7}, Image: []byte("image")}
}

// someKind answers a message of one of the kinds, that is told by its term.
func someKind(from, to, term uint64) api.Msg {
	switch term % 5 {
	case 0:
		return api.Msg{Kind: api.MsgAsk, From: from, To: to, Term: term, Index: term, LogTerm: 1}
	case 1:
		return vote(from, to, term)
	case 2:
		return copied(from, to, term)
	case 3:
		return api.Msg{Kind: api.MsgKept, From: from, To: to, Term: term, Yes: true, Index: 9, Stamp: term}
	}
	return imaged(from, to, term)
}

// unformed answers messages that may not be sent, of the way from 1 to 2 where they tell one.
func unformed() map[string]api.Msg {
	long := imaged(1, 2, 3)
	long.Image = make([]byte, api.MaxImage+1)
	many := copied(1, 2, 3)
	many.Entries = slices.Repeat(many.Entries[:1], 5)
	index := vote(1, 2, 3)
	index.Index = 1
	entry := copied(1, 2, 3)
	entry.Entries[0].Term = 0
	return map[string]api.Msg{
		"nothing":             {},
		"no kind":             {From: 1, To: 2, Term: 3},
		"another kind":        {Kind: 6, From: 1, To: 2, Term: 3},
		"from 0":              vote(0, 2, 3),
		"from 8":              vote(8, 2, 3),
		"to 0":                vote(1, 0, 3),
		"to 8":                vote(1, 8, 3),
		"to a great one":      vote(1, math.MaxUint64, 3),
		"term 0":              vote(1, 2, 0),
		"a term too great":    vote(1, 2, mostTerm+1),
		"a vote of an index":  index,
		"no members":          {Kind: api.MsgSnap, From: 1, To: 2, Term: 3},
		"an image too long":   long,
		"five entries":        many,
		"an entry of no term": entry,
	}
}

// one tells whether messages are one, without asking the package.
func one(a, b api.Msg) bool {
	return a.Kind == b.Kind && a.From == b.From && a.To == b.To && a.Term == b.Term && a.Index == b.Index && a.LogTerm == b.LogTerm &&
		a.Commit == b.Commit && a.Stamp == b.Stamp && a.Yes == b.Yes && slices.EqualFunc(a.Entries, b.Entries, oneEntry) &&
		slices.Equal(a.Members, b.Members) && string(a.Image) == string(b.Image)
}

func oneEntry(a, b api.Entry) bool {
	return a.Term == b.Term && a.Kind == b.Kind && a.Client == b.Client && a.Seq == b.Seq && string(a.Data) == string(b.Data) && slices.Equal(a.Members, b.Members)
}

// cloned answers a message that shares nothing with the other one.
func cloned(m api.Msg) api.Msg {
	m.Members, m.Image, m.Entries = slices.Clone(m.Members), bytes.Clone(m.Image), slices.Clone(m.Entries)
	for i, e := range m.Entries {
		m.Entries[i].Data, m.Entries[i].Members = bytes.Clone(e.Data), slices.Clone(e.Members)
	}
	return m
}

// full gives a list spare room that holds something.
func full[T any](list []T, spare T) []T {
	return append(slices.Clone(list), spare, spare)[:len(list)]
}

// roomy answers a like message whose lists have spare room that holds something.
func roomy(m api.Msg) api.Msg {
	m = cloned(m)
	for i, e := range m.Entries {
		m.Entries[i].Data, m.Entries[i].Members = full(e.Data, 99), full(e.Members, 98)
	}
	m.Entries, m.Members, m.Image = full(m.Entries, api.Entry{Term: 97}), full(m.Members, 96), full(m.Image, 95)
	return m
}

// spoil overwrites all that a message's lists hold, and their spare room.
func spoil(m api.Msg) {
	for _, e := range m.Entries {
		fill(e.Data, 55)
		fill(e.Members, 56)
	}
	fill(m.Entries, api.Entry{Term: 57})
	fill(m.Members, 58)
	fill(m.Image, 59)
}

func fill[T any](list []T, with T) {
	list = list[:cap(list)]
	for i := range list {
		list[i] = with
	}
}

// send sends, and stops the test where that is refused.
func send(t *testing.T, n *net.Net, list ...api.Msg) {
	t.Helper()
	for _, m := range list {
		if errno := n.Send(m); errno != api.OK {
			t.Fatalf("Send(%v): %d", m, errno)
		}
	}
}

// want fails the test where an answer isn't the one that is asked for.
func want(t *testing.T, what string, got, asked api.Errno) {
	t.Helper()
	if got != asked {
		t.Errorf("%s: %d, want %d", what, got, asked)
	}
}

// outside answers places that aren't there while so many messages are under way.
func outside(size int) []int {
	return []int{math.MinInt, -most, -2, -1, size, size + 1, size + most, 1 << 32, math.MaxInt}
}

// holds fails the test where other messages than these are under way, or in another order.
func holds(t *testing.T, n *net.Net, list ...api.Msg) {
	t.Helper()
	if n.Len() != len(list) {
		t.Errorf("Len: %d, want %d", n.Len(), len(list))
	}
	for i, m := range list {
		if got, errno := n.At(i); !one(got, m) || errno != api.OK {
			t.Errorf("At(%d): %v, %d, want %v", i, got, errno, m)
		}
	}
	for _, i := range outside(len(list)) {
		if got, errno := n.At(i); errno != api.ErrRange || !one(got, api.Msg{}) {
			t.Errorf("At(%d) of %d: %v, %d", i, len(list), got, errno)
		}
	}
}

// blocks fails the test where other ways are blocked than these.
func blocks(t *testing.T, n *net.Net, ways ...[2]uint64) {
	t.Helper()
	for _, from := range numbers() {
		for _, to := range numbers() {
			if got := n.Blocked(from, to); got != slices.Contains(ways, [2]uint64{from, to}) {
				t.Errorf("Blocked(%d, %d): %v", from, to, got)
			}
		}
	}
}

// numbers that a way may be of.
func numbers() []uint64 {
	return []uint64{0, 1, 2, 3, 4, 5, 6, 7, 8, 255, 256, 257, 1 << 32, 1<<32 + 1, math.MaxInt64, math.MaxInt64 + 1, math.MaxUint64}
}

// P19.1

func TestNewNet(t *testing.T) {
	n := net.New()
	if n == nil {
		t.Fatal("no net")
	}
	holds(t, n)
	blocks(t, n)
	for from := range uint64(7) {
		for to := range uint64(7) {
			want(t, "Send", n.Send(vote(from+1, to+1, 1)), api.OK)
		}
	}
}

func TestNetsAreApart(t *testing.T) {
	x, y := net.New(), net.New()
	send(t, x, vote(1, 2, 1))
	x.Block(2, 1, true)
	holds(t, y)
	blocks(t, y)
	send(t, y, vote(2, 1, 2))
	holds(t, x, vote(1, 2, 1))
	blocks(t, x, [2]uint64{2, 1})
}

func TestSendOfEachKind(t *testing.T) {
	n := net.New()
	var list []api.Msg
	for term := range uint64(50) {
		m := someKind(term%7+1, term%3+1, term+1)
		want(t, "Send", n.Send(m), api.OK)
		list = append(list, m)
		holds(t, n, list...)
	}
	widest := imaged(7, 7, mostTerm)
	widest.Image = bytes.Repeat([]byte("xyz"), api.MaxImage/3)
	send(t, n, widest, widest)
	holds(t, n, append(list, widest, widest)...)
}

func TestSendOfUnformedOnes(t *testing.T) {
	n := net.New()
	refuse := func() {
		t.Helper()
		for what, m := range unformed() {
			want(t, what, n.Send(m), api.ErrArg)
		}
	}
	refuse()
	holds(t, n)
	for _, from := range numbers() {
		for _, to := range numbers() {
			n.Block(from, to, true)
		}
	}
	refuse() // told ahead of the blocked way
	holds(t, n)
	n = net.New()
	for range most {
		send(t, n, vote(1, 2, 3))
	}
	refuse() // and ahead of the lack of room
	holds(t, n, slices.Repeat([]api.Msg{vote(1, 2, 3)}, most)...)
}

func TestSendToTheFull(t *testing.T) {
	n := net.New()
	var list []api.Msg
	for i := range uint64(most) {
		want(t, "Send", n.Send(vote(1, 2, i+1)), api.OK)
		list = append(list, vote(1, 2, i+1))
	}
	for i := range uint64(3) {
		want(t, "one more", n.Send(vote(1, 2, 1000+i)), api.ErrFull)
	}
	holds(t, n, list...)
	n.Block(1, 2, true)
	want(t, "blocked, told ahead of the lack of room", n.Send(vote(1, 2, 1)), api.ErrLost)
	want(t, "another way", n.Send(vote(2, 1, 1)), api.ErrFull)
	if _, errno := n.Take(100); errno != api.OK {
		t.Fatal(errno)
	}
	want(t, "room again", n.Send(vote(2, 1, 1)), api.OK)
	want(t, "full again", n.Send(vote(2, 1, 1)), api.ErrFull)
	holds(t, n, append(slices.Delete(list, 100, 101), vote(2, 1, 1))...)
}

// P19.2

func TestTakeOfEachPlace(t *testing.T) {
	for size := range 12 {
		for i := range size {
			n := net.New()
			var list []api.Msg
			for k := range size {
				list = append(list, someKind(1, 2, uint64(k)+1))
			}
			send(t, n, list...)
			if m, errno := n.Take(i); !one(m, list[i]) || errno != api.OK {
				t.Errorf("Take(%d) of %d: %v, %d", i, size, m, errno)
			}
			holds(t, n, slices.Delete(slices.Clone(list), i, i+1)...)
		}
	}
}

func TestPlacesOutside(t *testing.T) {
	n := net.New()
	var list []api.Msg
	for size := range most + 1 {
		holds(t, n, list...)
		for _, i := range outside(size) {
			if m, errno := n.Take(i); errno != api.ErrRange || !one(m, api.Msg{}) {
				t.Errorf("Take(%d) of %d: %v, %d", i, size, m, errno)
			}
			want(t, "Twice", n.Twice(i), api.ErrRange) // of the full net, too
		}
		if size == most {
			break
		}
		list = append(list, vote(1, 2, uint64(size)+1))
		send(t, n, list[size])
	}
}

func TestTwice(t *testing.T) {
	a, b, c := copied(1, 2, 1), imaged(2, 1, 2), vote(3, 1, 3)
	n := net.New()
	send(t, n, a, b, c)
	want(t, "Twice(1)", n.Twice(1), api.OK)
	holds(t, n, a, b, c, b)
	want(t, "Twice(3)", n.Twice(3), api.OK)
	want(t, "Twice(0)", n.Twice(0), api.OK)
	holds(t, n, a, b, c, b, b, a)
	if m, errno := n.Take(1); !one(m, b) || errno != api.OK {
		t.Error(m, errno)
	}
	holds(t, n, a, c, b, b, a)
	n.Block(1, 2, true)
	want(t, "Twice of a way that is blocked", n.Twice(0), api.OK) // it is under way already
	holds(t, n, a, c, b, b, a, a)
}

func TestTwiceToTheFull(t *testing.T) {
	n := net.New()
	send(t, n, copied(1, 2, 1))
	list := []api.Msg{copied(1, 2, 1)}
	for i := range most - 1 {
		want(t, "Twice", n.Twice(i), api.OK)
		list = append(list, list[0])
	}
	for _, i := range []int{0, 1, most / 2, most - 1} {
		want(t, "once more", n.Twice(i), api.ErrFull)
	}
	holds(t, n, list...)
	if _, errno := n.Take(0); errno != api.OK {
		t.Fatal(errno)
	}
	want(t, "room again", n.Twice(most-2), api.OK)
	want(t, "full again", n.Twice(most-2), api.ErrFull)
	want(t, "full again", n.Send(vote(1, 2, 1)), api.ErrFull)
	holds(t, n, list...)
}

// P19.3

func TestBlock(t *testing.T) {
	n := net.New()
	a := vote(1, 2, 1)
	send(t, n, a)
	n.Block(1, 2, true)
	blocks(t, n, [2]uint64{1, 2})
	want(t, "blocked", n.Send(a), api.ErrLost)
	want(t, "back", n.Send(vote(2, 1, 2)), api.OK)
	want(t, "to another", n.Send(vote(1, 3, 3)), api.OK)
	want(t, "to itself", n.Send(vote(1, 1, 4)), api.OK)
	want(t, "from another", n.Send(vote(2, 2, 5)), api.OK)
	holds(t, n, a, vote(2, 1, 2), vote(1, 3, 3), vote(1, 1, 4), vote(2, 2, 5))
	if m, errno := n.Take(0); !one(m, a) || errno != api.OK {
		t.Errorf("what was under way: %v, %d", m, errno)
	}
	n.Block(1, 2, true)
	blocks(t, n, [2]uint64{1, 2})
	n.Block(1, 2, false) // blocked twice, it is open by one
	blocks(t, n)
	want(t, "open", n.Send(a), api.OK)
	n.Block(1, 2, false)
	n.Block(2, 1, false)
	blocks(t, n)
}

func TestBlockOfAnyNumbers(t *testing.T) {
	n := net.New()
	var ways [][2]uint64
	for i, from := range numbers() {
		for k, to := range numbers() {
			if (i*7+k*3)%4 == 0 {
				n.Block(from, to, true)
				ways = append(ways, [2]uint64{from, to})
			}
		}
	}
	blocks(t, n, ways...)
	holds(t, n)
	for len(ways) > 0 {
		n.Block(ways[0][0], ways[0][1], false)
		ways = ways[1:]
		if len(ways)%10 == 0 {
			blocks(t, n, ways...)
		}
	}
	for from := range uint64(7) {
		for to := range uint64(7) {
			want(t, "Send", n.Send(vote(from+1, to+1, 1)), api.OK)
		}
	}
}

// P19.4

func TestWhatIsSentIsKeptAsItWas(t *testing.T) {
	for _, m := range []api.Msg{copied(1, 2, 3), imaged(1, 2, 3)} {
		n := net.New()
		handed, like := roomy(m), roomy(m)
		send(t, n, handed)
		if !slices.EqualFunc(spare(handed.Entries), spare(like.Entries), oneEntry) {
			t.Error("Send changed entries, or the room behind them")
		}
		for i := range m.Entries {
			if !bytes.Equal(spare(handed.Entries[i].Data), spare(like.Entries[i].Data)) || !slices.Equal(spare(handed.Entries[i].Members), spare(like.Entries[i].Members)) {
				t.Error("Send changed an entry's lists, or the room behind them")
			}
		}
		if !slices.Equal(spare(handed.Members), spare(like.Members)) || !bytes.Equal(spare(handed.Image), spare(like.Image)) {
			t.Error("Send changed lists, or the room behind them")
		}
		want(t, "Twice", n.Twice(0), api.OK)
		spoil(handed)
		holds(t, n, m, m)
	}
}

// spare answers a list with the room behind it.
func spare[T any](list []T) []T {
	return list[:cap(list)]
}

func TestAnswersAreNewMemory(t *testing.T) {
	for _, m := range []api.Msg{copied(1, 2, 3), imaged(1, 2, 3)} {
		n := net.New()
		send(t, n, m, m)
		want(t, "Twice", n.Twice(0), api.OK)
		for i := range 3 {
			first, _ := n.At(i)
			second, _ := n.At(i)
			spoil(first)
			if !one(second, m) {
				t.Error("two answers share memory")
			}
			holds(t, n, m, m, m)
		}
		taken, _ := n.Take(0)
		later, _ := n.At(1)
		spoil(taken)
		if !one(later, m) {
			t.Error("two answers share memory")
		}
		holds(t, n, m, m)
	}
}

func TestListsOfAnAnswerAreApart(t *testing.T) {
	m := copied(1, 2, 3)
	m.Entries = append(m.Entries, m.Entries[1])
	n := net.New()
	send(t, n, m)
	got, _ := n.At(0)
	for i := range got.Entries {
		list := cloned(got)
		fill(got.Entries[i].Data, 55)
		fill(got.Entries[i].Members, 56)
		for k := range got.Entries {
			if k != i && !oneEntry(got.Entries[k], list.Entries[k]) {
				t.Errorf("entries %d and %d share memory", i, k)
			}
		}
	}
}

func TestEmptyListsAreNone(t *testing.T) {
	m := vote(1, 2, 4)
	m.Entries, m.Members, m.Image = []api.Entry{}, []uint64{}, []byte{}
	n := net.New()
	send(t, n, m)
	holds(t, n, vote(1, 2, 4))
}

func TestNilNet(t *testing.T) {
	var n *net.Net
	for range 2 {
		for _, m := range []api.Msg{vote(1, 2, 3), copied(1, 2, 3), imaged(2, 2, 3)} {
			want(t, "Send", n.Send(m), api.ErrLost)
		}
		for what, m := range unformed() {
			want(t, what, n.Send(m), api.ErrLost)
		}
		holds(t, n)
		for _, i := range outside(0) {
			want(t, "Twice", n.Twice(i), api.ErrRange)
			if m, errno := n.Take(i); errno != api.ErrRange || !one(m, api.Msg{}) {
				t.Errorf("Take(%d): %v, %d", i, m, errno)
			}
		}
		for _, from := range numbers() {
			for _, to := range numbers() {
				if !n.Blocked(from, to) {
					t.Errorf("Blocked(%d, %d): false", from, to)
				}
			}
		}
		n.Block(1, 2, true)
		n.Block(1, 2, false)
	}
}

// All promises: scripts by chance, held against a list and a list of ways.

// model of a net: the same, done plainly.
type model struct {
	list []api.Msg
	ways [][2]uint64
}

func (o *model) send(m api.Msg, formed bool) api.Errno {
	switch {
	case !formed:
		return api.ErrArg
	case slices.Contains(o.ways, [2]uint64{m.From, m.To}):
		return api.ErrLost
	case len(o.list) == most:
		return api.ErrFull
	}
	o.list = append(o.list, m)
	return api.OK
}

func (o *model) twice(i int) api.Errno {
	switch {
	case i < 0 || i >= len(o.list):
		return api.ErrRange
	case len(o.list) == most:
		return api.ErrFull
	}
	o.list = append(o.list, o.list[i])
	return api.OK
}

func (o *model) take(i int) (api.Msg, api.Errno) {
	if i < 0 || i >= len(o.list) {
		return api.Msg{}, api.ErrRange
	}
	m := o.list[i]
	o.list = append(slices.Clone(o.list[:i]), o.list[i+1:]...)
	return m, api.OK
}

func (o *model) block(from, to uint64, yes bool) {
	o.ways = slices.DeleteFunc(o.ways, func(w [2]uint64) bool { return w == [2]uint64{from, to} })
	if yes {
		o.ways = append(o.ways, [2]uint64{from, to})
	}
}

func TestScripts(t *testing.T) {
	seen := map[api.Errno]int{}
	for seed := range int64(30) {
		chance := rand.New(rand.NewSource(seed))
		n, o := net.New(), &model{}
		bad := unformed()
		grows := 60 + chance.Intn(40)
		for step := range 1500 {
			from, to := uint64(chance.Intn(3)+1), uint64(chance.Intn(3)+1)
			i := chance.Intn(len(o.list)+3) - 1
			var got, asked api.Errno
			switch roll := chance.Intn(200); {
			case roll < grows:
				m := someKind(from, to, uint64(step)+1)
				got, asked = n.Send(m), o.send(m, true)
			case roll < grows+30:
				got, asked = n.Twice(i), o.twice(i)
			case roll < 180:
				var x, y api.Msg
				x, got = n.Take(i)
				y, asked = o.take(i)
				if !one(x, y) {
					t.Fatalf("Take(%d): %v, want %v", i, x, y)
				}
			case roll < 183:
				m := bad["five entries"]
				got, asked = n.Send(m), o.send(m, false)
			default:
				yes := chance.Intn(3) == 0
				n.Block(from, to, yes)
				o.block(from, to, yes)
			}
			seen[got]++
			if got != asked || n.Len() != len(o.list) || n.Blocked(from, to) != slices.Contains(o.ways, [2]uint64{from, to}) {
				t.Fatalf("seed %d, step %d: %d, want %d; %d under way, want %d", seed, step, got, asked, n.Len(), len(o.list))
			}
		}
		holds(t, n, o.list...)
		blocks(t, n, o.ways...)
	}
	for _, errno := range []api.Errno{api.OK, api.ErrArg, api.ErrLost, api.ErrFull, api.ErrRange} {
		if seen[errno] < 20 {
			t.Errorf("answered %d only %d times", errno, seen[errno])
		}
	}
}
