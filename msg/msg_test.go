package msg_test

import (
	"bytes"
	"fmt"
	"math"
	"slices"
	"strings"
	"testing"

	"tabellion/api"
	"tabellion/msg"
)

const (
	mostTerm  = 1 << 62
	mostImage = 1 << 14
)

// all are the ids that members may have.
var all = []uint64{1, 2, 3, 4, 5, 6, 7}

// headed answers a message of a kind with nothing but what all have.
func headed(kind int) api.Msg {
	return api.Msg{Kind: kind, From: 1, To: 2, Term: 3}
}

// image answers so many bytes, no two neighbours alike.
func image(n int) []byte {
	b := make([]byte, n)
	for i := range b {
		b[i] = byte(i*7 + n)
	}
	return b
}

// none, put and conf answer entries of the three kinds.
func none(term uint64) api.Entry {
	return api.Entry{Term: term, Kind: api.KindNone}
}

func put(term, client, seq uint64, data string) api.Entry {
	return api.Entry{Term: term, Kind: api.KindPut, Client: client, Seq: seq, Data: []byte(data)}
}

func conf(term uint64, ids ...uint64) api.Entry {
	return api.Entry{Term: term, Kind: api.KindConf, Members: ids}
}

// edges answers the numbers around each power of 256, and the ends.
func edges() []uint64 {
	list := []uint64{0, 1, 2, 7, 8, 127, 128}
	for shift := 8; shift < 64; shift += 8 {
		p := uint64(1) << shift
		list = append(list, p-1, p, p+1)
	}
	return append(list, mostTerm-1, mostTerm, mostTerm+1, math.MaxInt64, math.MaxInt64+1, math.MaxUint64-1, math.MaxUint64)
}

// subsets answers all members that are formed.
func subsets() [][]uint64 {
	var list [][]uint64
	for bits := 1; bits < 1<<len(all); bits++ {
		var ids []uint64
		for i, id := range all {
			if bits>>i&1 == 1 {
				ids = append(ids, id)
			}
		}
		list = append(list, ids)
	}
	return list
}

// batches answers lists of entries that a message may have.
func batches() [][]api.Entry {
	widest := put(mostTerm, math.MaxUint64, math.MaxUint64, strings.Repeat("z", 64))
	list := [][]api.Entry{
		nil, {}, {none(1)}, {none(mostTerm)}, {put(2, 3, 0, "a")}, {put(2, 0, 0, "")}, {conf(2, 1, 3)}, {conf(mostTerm, all...)}, {widest},
		{none(1), none(1)}, {none(9), none(3)}, {put(2, 3, 0, "a"), none(1), conf(2, 1, 3)}, {conf(1, 7), put(2, 3, 4, "ab"), none(4)},
		{none(1), put(1, 1, 1, "a"), put(1, 1, 2, "b"), conf(1, 2)}, {none(1), none(2), none(3), none(4)}, {widest, widest, widest, widest},
	}
	for size := range 65 {
		list = append(list, []api.Entry{put(3, 4, 5, strings.Repeat("\xff", size)), none(6)})
	}
	return list
}

// inRange answers those of the edges that an index, or the term of an entry, may be.
func inRange() []uint64 {
	return slices.DeleteFunc(edges(), func(n uint64) bool { return n > mostTerm })
}

// formed answers messages that are formed: of each kind, with the edges of each field.
func formed() []api.Msg {
	var list []api.Msg
	for _, from := range all {
		for _, to := range all {
			list = append(list, api.Msg{Kind: api.MsgAsk, From: from, To: to, Term: 1}, api.Msg{Kind: api.MsgVote, From: from, To: to, Term: 1})
		}
	}
	for _, n := range edges() {
		list = append(list,
			api.Msg{Kind: api.MsgCopy, From: 1, To: 2, Term: 3, Stamp: n},
			api.Msg{Kind: api.MsgKept, From: 1, To: 2, Term: 3, Stamp: n},
			api.Msg{Kind: api.MsgSnap, From: 1, To: 2, Term: 3, Stamp: n, Members: all[:3]})
	}
	for _, n := range inRange() {
		list = append(list,
			api.Msg{Kind: api.MsgAsk, From: 1, To: 2, Term: 3, Index: n}, api.Msg{Kind: api.MsgAsk, From: 1, To: 2, Term: 3, LogTerm: n},
			api.Msg{Kind: api.MsgCopy, From: 1, To: 2, Term: 3, Index: n}, api.Msg{Kind: api.MsgCopy, From: 1, To: 2, Term: 3, LogTerm: n},
			api.Msg{Kind: api.MsgCopy, From: 1, To: 2, Term: 3, Commit: n, Entries: []api.Entry{none(max(n, 1))}},
			api.Msg{Kind: api.MsgKept, From: 1, To: 2, Term: 3, Yes: true, Index: n},
			api.Msg{Kind: api.MsgSnap, From: 1, To: 2, Term: 3, Index: n, Members: all[1:2], Image: image(3)},
			api.Msg{Kind: api.MsgSnap, From: 1, To: 2, Term: 3, LogTerm: n, Members: all[1:2]})
		for kind := api.MsgAsk; n > 0 && kind <= api.MsgKept; kind++ {
			list = append(list, api.Msg{Kind: kind, From: 7, To: 7, Term: n})
		}
	}
	list = append(list, api.Msg{Kind: api.MsgVote, From: 1, To: 2, Term: 3, Yes: true}, api.Msg{Kind: api.MsgKept, From: 1, To: 2, Term: mostTerm, Yes: true})
	for _, batch := range batches() {
		list = append(list, api.Msg{Kind: api.MsgCopy, From: 1, To: 2, Term: 3, Index: 4, LogTerm: 5, Commit: 6, Stamp: 7, Entries: batch})
	}
	for _, ids := range subsets() {
		list = append(list, api.Msg{Kind: api.MsgSnap, From: 1, To: 2, Term: 3, Index: 4, LogTerm: 5, Stamp: 6, Members: ids, Image: image(len(ids))})
	}
	for _, size := range []int{0, 1, 2, 127, 128, 129, 255, 256, 257, mostImage - 1, mostImage} {
		list = append(list, api.Msg{Kind: api.MsgSnap, From: 7, To: 1, Term: mostTerm, Members: []uint64{7}, Image: image(size)})
	}
	return list
}

// field is one that not all kinds have, and a way to fill it.
type field struct {
	name  string
	kinds []int
	fill  func(m *api.Msg)
}

func fields() []field {
	return []field{
		{"Index", []int{1, 3, 4, 5}, func(m *api.Msg) { m.Index = 1 }},
		{"LogTerm", []int{1, 3, 5}, func(m *api.Msg) { m.LogTerm = 1 }},
		{"Commit", []int{3}, func(m *api.Msg) { m.Commit = 1 }},
		{"Stamp", []int{3, 4, 5}, func(m *api.Msg) { m.Stamp = 1 }},
		{"Yes", []int{2, 4}, func(m *api.Msg) { m.Yes = true }},
		{"Entries", []int{3}, func(m *api.Msg) { m.Entries = []api.Entry{none(1)} }},
		{"an entry that is none", nil, func(m *api.Msg) { m.Entries = []api.Entry{{}} }},
		{"Members", []int{5}, func(m *api.Msg) { m.Members = []uint64{1} }},
		{"a member that is none", nil, func(m *api.Msg) { m.Members = []uint64{0} }},
		{"Image", []int{5}, func(m *api.Msg) { m.Image = []byte{0} }},
	}
}

// lawful answers a message of each kind that has all its fields.
func lawful() []api.Msg {
	list := make([]api.Msg, 6)
	for kind := range list {
		list[kind] = headed(kind)
		for _, f := range fields() {
			if slices.Contains(f.kinds, kind) {
				f.fill(&list[kind])
			}
		}
	}
	return list[1:]
}

// unformed answers messages that aren't formed, each by what is wrong with it.
func unformed() map[string]api.Msg {
	list := map[string]api.Msg{"nothing": {}}
	turn := func(what string, m api.Msg, how func(m *api.Msg)) {
		how(&m)
		list[fmt.Sprintf("kind %d: %s", m.Kind, what)] = m
	}
	for _, m := range lawful() {
		for _, id := range []uint64{0, 8, 255, 257, 1<<32 + 1, mostTerm, math.MaxUint64} {
			turn(fmt.Sprint("from ", id), m, func(m *api.Msg) { m.From = id })
			turn(fmt.Sprint("to ", id), m, func(m *api.Msg) { m.To = id })
		}
		turn("term 0", m, func(m *api.Msg) { m.Term = 0 })
		for _, n := range []uint64{mostTerm + 1, math.MaxInt64, math.MaxInt64 + 1, math.MaxUint64} {
			turn(fmt.Sprint("term ", n), m, func(m *api.Msg) { m.Term = n })
			turn(fmt.Sprint("index ", n), m, func(m *api.Msg) { m.Index = n })
			turn(fmt.Sprint("log term ", n), m, func(m *api.Msg) { m.LogTerm = n })
			turn(fmt.Sprint("commit ", n), m, func(m *api.Msg) { m.Commit = n })
		}
		for _, f := range fields() {
			if !slices.Contains(f.kinds, m.Kind) {
				turn(f.name, m, f.fill)
			}
		}
		for _, kind := range []int{0, -1, 6, m.Kind + 256, m.Kind - 256, m.Kind + 1<<32, math.MinInt, math.MaxInt} {
			turn(fmt.Sprint("kind ", kind), m, func(m *api.Msg) { m.Kind = kind })
		}
	}
	for what, batch := range map[string][]api.Entry{
		"five entries":                    slices.Repeat([]api.Entry{none(1)}, 5),
		"very many entries":               slices.Repeat([]api.Entry{none(1)}, 1<<16),
		"an entry of no term":             {{Kind: api.KindNone}},
		"an entry of too great a term":    {none(mostTerm + 1)},
		"an entry of another kind":        {{Term: 1, Kind: 4}},
		"an entry of too much data":       {put(1, 1, 1, strings.Repeat("a", 65))},
		"an entry of one more field":      {{Term: 1, Kind: api.KindNone, Seq: 1}},
		"an entry of no members":          {conf(1)},
		"the second entry isn't formed":   {none(1), {}},
		"the last of four isn't formed":   {none(1), none(1), none(1), conf(1, 2, 1)},
		"the first of four isn't formed":  {conf(1, 8), none(1), none(1), none(1)},
		"the second of four isn't formed": {none(1), put(0, 1, 1, "a"), none(1), none(1)},
	} {
		turn(what, headed(api.MsgCopy), func(m *api.Msg) { m.Entries = batch })
	}
	for _, ids := range [][]uint64{nil, {}, {0}, {8}, {2, 1}, {2, 2}, {1, 8}, {0, 1}, {1, 3, 2}, {1, 2, 3, 4, 5, 6, 7, 8}, {1, 2, 3, 4, 5, 6, 7, 7}, {257}, {1, 1<<32 + 2}, {math.MaxUint64}, make([]uint64, 1<<16)} {
		turn(fmt.Sprintf("members %.60s", fmt.Sprint(ids)), headed(api.MsgSnap), func(m *api.Msg) { m.Members = ids })
	}
	for _, size := range []int{mostImage + 1, 1 << 15, 1 << 20} {
		turn(fmt.Sprint("an image of ", size), headed(api.MsgSnap), func(m *api.Msg) { m.Members, m.Image = all, image(size) })
	}
	return list
}

// bytesOf are a number's bytes, as layer 1 says them.
func bytesOf(n uint64) []byte {
	var digits []byte
	for ; n > 0; n >>= 8 {
		digits = append([]byte{byte(n)}, digits...)
	}
	return append([]byte{byte(len(digits))}, digits...)
}

// laidList are the bytes of how many ids there are, and of each.
func laidList(ids []uint64) []byte {
	b := bytesOf(uint64(len(ids)))
	for _, id := range ids {
		b = append(b, bytesOf(id)...)
	}
	return b
}

// laidText are a text's bytes, as layer 1 says them.
func laidText(text []byte) []byte {
	return append(bytesOf(uint64(len(text))), text...)
}

// laidEntry are an entry's bytes, as layer 12 says them.
func laidEntry(e api.Entry) []byte {
	b := append(bytesOf(e.Term), byte(e.Kind))
	switch e.Kind {
	case 2:
		return slices.Concat(b, bytesOf(e.Client), bytesOf(e.Seq), laidText(e.Data))
	case 3:
		return append(b, laidList(e.Members)...)
	}
	return b
}

// laidBatch are the bytes of how many texts there are, and of each.
func laidBatch(texts ...[]byte) []byte {
	b := bytesOf(uint64(len(texts)))
	for _, text := range texts {
		b = append(b, laidText(text)...)
	}
	return b
}

// laid are a message's bytes, as the chapter says them.
func laid(m api.Msg) []byte {
	yes := []byte{0}
	if m.Yes {
		yes[0] = 1
	}
	head := slices.Concat([]byte{byte(m.Kind)}, bytesOf(m.From), bytesOf(m.To), bytesOf(m.Term))
	switch m.Kind {
	case 1:
		return slices.Concat(head, bytesOf(m.Index), bytesOf(m.LogTerm))
	case 2:
		return slices.Concat(head, yes)
	case 3:
		var texts [][]byte
		for _, e := range m.Entries {
			texts = append(texts, laidEntry(e))
		}
		return slices.Concat(head, bytesOf(m.Index), bytesOf(m.LogTerm), bytesOf(m.Commit), bytesOf(m.Stamp), laidBatch(texts...))
	case 4:
		return slices.Concat(head, yes, bytesOf(m.Index), bytesOf(m.Stamp))
	}
	return slices.Concat(head, bytesOf(m.Index), bytesOf(m.LogTerm), bytesOf(m.Stamp), laidList(m.Members), laidText(m.Image))
}

// one tells whether messages are one, without asking the package.
func one(a, b api.Msg) bool {
	return a.Kind == b.Kind && a.From == b.From && a.To == b.To && a.Term == b.Term && a.Index == b.Index && a.LogTerm == b.LogTerm &&
		a.Commit == b.Commit && a.Stamp == b.Stamp && a.Yes == b.Yes && slices.EqualFunc(a.Entries, b.Entries, oneEntry) &&
		slices.Equal(a.Members, b.Members) && string(a.Image) == string(b.Image)
}

func oneEntry(a, b api.Entry) bool {
	return a.Term == b.Term && a.Kind == b.Kind && a.Client == b.Client && a.Seq == b.Seq && string(a.Data) == string(b.Data) && slices.Equal(a.Members, b.Members)
}

// cloned answers a message that shares nothing with the other one.
func cloned(m api.Msg) api.Msg {
	m.Members, m.Image, m.Entries = slices.Clone(m.Members), bytes.Clone(m.Image), slices.Clone(m.Entries)
	for i, e := range m.Entries {
		m.Entries[i].Data, m.Entries[i].Members = bytes.Clone(e.Data), slices.Clone(e.Members)
	}
	return m
}

// P18.1

func TestFormedOnes(t *testing.T) {
	for _, m := range append(formed(), lawful()...) {
		if !msg.Formed(m) {
			t.Errorf("Formed(%.300v): false", m)
		}
		if b, errno := msg.Put(m); !bytes.Equal(b, laid(m)) || errno != api.OK {
			t.Errorf("Put(%.300v): %.300x, %d, want %.300x", m, b, errno, laid(m))
		}
	}
}

func TestUnformedOnes(t *testing.T) {
	for what, m := range unformed() {
		if msg.Formed(m) {
			t.Errorf("%s: formed", what)
		}
		if b, errno := msg.Put(m); errno != api.ErrArg || len(b) > 0 {
			t.Errorf("%s: Put: %.300x, %d", what, b, errno)
		}
	}
}

func TestPutKnown(t *testing.T) {
	for _, c := range []struct {
		m    api.Msg
		want string
	}{
		{api.Msg{Kind: api.MsgVote, From: 1, To: 2, Term: 3, Yes: true}, "\x02\x01\x01\x01\x02\x01\x03\x01"},
		{api.Msg{Kind: api.MsgVote, From: 7, To: 6, Term: 256}, "\x02\x01\x07\x01\x06\x02\x01\x00\x00"},
		{api.Msg{Kind: api.MsgAsk, From: 2, To: 1, Term: 1}, "\x01\x01\x02\x01\x01\x01\x01\x00\x00"},
		{api.Msg{Kind: api.MsgAsk, From: 2, To: 1, Term: 5, Index: 3, LogTerm: 4}, "\x01\x01\x02\x01\x01\x01\x05\x01\x03\x01\x04"},
		{api.Msg{Kind: api.MsgCopy, From: 1, To: 2, Term: 9, Index: 5, LogTerm: 6, Commit: 7, Stamp: 8}, "\x03\x01\x01\x01\x02\x01\x09\x01\x05\x01\x06\x01\x07\x01\x08\x00"},
		{api.Msg{Kind: api.MsgCopy, From: 1, To: 2, Term: 1, Entries: []api.Entry{none(1), put(2, 3, 0, "a")}},
			"\x03\x01\x01\x01\x02\x01\x01\x00\x00\x00\x00\x01\x02\x01\x03\x01\x01\x01\x01\x09\x01\x02\x02\x01\x03\x00\x01\x01a"},
		{api.Msg{Kind: api.MsgKept, From: 3, To: 1, Term: 1, Yes: true, Index: 255, Stamp: math.MaxUint64},
			"\x04\x01\x03\x01\x01\x01\x01\x01\x01\xff\x08\xff\xff\xff\xff\xff\xff\xff\xff"},
		{api.Msg{Kind: api.MsgKept, From: 3, To: 1, Term: 1}, "\x04\x01\x03\x01\x01\x01\x01\x00\x00\x00"},
		{api.Msg{Kind: api.MsgSnap, From: 1, To: 3, Term: 2, Index: 4, LogTerm: 5, Stamp: 6, Members: []uint64{1, 3}, Image: []byte("ab")},
			"\x05\x01\x01\x01\x03\x01\x02\x01\x04\x01\x05\x01\x06\x01\x02\x01\x01\x01\x03\x01\x02ab"},
		{api.Msg{Kind: api.MsgSnap, From: 1, To: 3, Term: mostTerm, Members: []uint64{7}},
			"\x05\x01\x01\x01\x03\x08\x40\x00\x00\x00\x00\x00\x00\x00\x00\x00\x00\x01\x01\x01\x07\x00"},
	} {
		if b, errno := msg.Put(c.m); string(b) != c.want || errno != api.OK {
			t.Errorf("Put(%v): %x, %d, want %x", c.m, b, errno, c.want)
		}
	}
}

func TestEmptyListsAreNone(t *testing.T) {
	for kind := api.MsgAsk; kind <= api.MsgSnap; kind++ {
		without := headed(kind)
		if kind == api.MsgSnap {
			without.Members = []uint64{2}
		}
		with := without
		with.Entries, with.Image = []api.Entry{}, []byte{}
		if with.Members == nil {
			with.Members = []uint64{}
		}
		for _, m := range []api.Msg{without, with} {
			if b, errno := msg.Put(m); !msg.Formed(m) || errno != api.OK || !bytes.Equal(b, laid(without)) {
				t.Errorf("%v: %v, %x, %d", m, msg.Formed(m), b, errno)
			}
		}
	}
	e := api.Entry{Term: 1, Kind: api.KindNone, Data: []byte{}, Members: []uint64{}}
	m := api.Msg{Kind: api.MsgCopy, From: 1, To: 2, Term: 3, Entries: []api.Entry{e}}
	if b, errno := msg.Put(m); !msg.Formed(m) || errno != api.OK || !bytes.Equal(b, laid(m)) {
		t.Errorf("%v: %x, %d", m, b, errno)
	}
}

// P18.4

func TestSameOfEachTwo(t *testing.T) {
	full := api.Msg{Kind: 1, From: 2, To: 3, Term: 4, Index: 5, LogTerm: 6, Commit: 7, Stamp: 8, Yes: true,
		Entries: []api.Entry{put(1, 2, 3, "ab"), conf(4, 5)}, Members: []uint64{9, 8}, Image: []byte("cd")}
	list := []api.Msg{{}, {Kind: -1, From: math.MaxUint64, Entries: make([]api.Entry, 1000), Members: make([]uint64, 1000), Image: make([]byte, 1<<20)}, full}
	for _, turn := range []func(m *api.Msg){
		func(m *api.Msg) { m.Kind = 2 },
		func(m *api.Msg) { m.Kind += 256 },
		func(m *api.Msg) { m.From = 3 },
		func(m *api.Msg) { m.From, m.To = m.To, m.From },
		func(m *api.Msg) { m.To = 2 },
		func(m *api.Msg) { m.Term += 1 << 32 },
		func(m *api.Msg) { m.Index, m.LogTerm = m.LogTerm, m.Index },
		func(m *api.Msg) { m.Index = 0 },
		func(m *api.Msg) { m.LogTerm = 0 },
		func(m *api.Msg) { m.Commit = 0 },
		func(m *api.Msg) { m.Commit, m.Stamp = m.Stamp, m.Commit },
		func(m *api.Msg) { m.Stamp = 1<<63 + 8 },
		func(m *api.Msg) { m.Yes = false },
		func(m *api.Msg) { m.Entries = nil },
		func(m *api.Msg) { m.Entries = m.Entries[:1] },
		func(m *api.Msg) { m.Entries = append(m.Entries, api.Entry{}) },
		func(m *api.Msg) { m.Entries[0], m.Entries[1] = m.Entries[1], m.Entries[0] },
		func(m *api.Msg) { m.Entries[1].Term = 5 },
		func(m *api.Msg) { m.Entries[0].Kind = 3 },
		func(m *api.Msg) { m.Entries[0].Client = 3 },
		func(m *api.Msg) { m.Entries[0].Seq = 2 },
		func(m *api.Msg) { m.Entries[0].Data[1] = 'c' },
		func(m *api.Msg) { m.Entries[1].Members[0] = 6 },
		func(m *api.Msg) { m.Members = nil },
		func(m *api.Msg) { m.Members = []uint64{9} },
		func(m *api.Msg) { m.Members = []uint64{8, 9} },
		func(m *api.Msg) { m.Members = []uint64{9, 8, 0} },
		func(m *api.Msg) { m.Image = nil },
		func(m *api.Msg) { m.Image = []byte("c") },
		func(m *api.Msg) { m.Image = []byte("ce") },
		func(m *api.Msg) { m.Image = []byte("cd\x00") },
	} {
		m := cloned(full)
		turn(&m)
		list = append(list, m)
	}
	for i, a := range list {
		for j, b := range list {
			if got := msg.Same(a, cloned(b)); got != (i == j) {
				t.Errorf("Same of %d and %d: %v", i, j, got)
			}
		}
	}
}

func TestSameOfEmptyLists(t *testing.T) {
	empty := api.Msg{Entries: []api.Entry{}, Members: []uint64{}, Image: []byte{}}
	if !msg.Same(empty, api.Msg{}) || !msg.Same(api.Msg{}, empty) || !msg.Same(empty, empty) {
		t.Error("nil and empty lists aren't one")
	}
	within := api.Msg{Entries: []api.Entry{{Data: []byte{}, Members: []uint64{}}}}
	if !msg.Same(within, api.Msg{Entries: make([]api.Entry, 1)}) {
		t.Error("nil and empty lists of an entry aren't one")
	}
	for _, m := range []api.Msg{{Entries: make([]api.Entry, 1)}, {Members: make([]uint64, 1)}, {Image: make([]byte, 1)}} {
		if msg.Same(empty, m) || msg.Same(m, empty) {
			t.Errorf("an empty list is one with a list of a zero: %v", m)
		}
	}
}

// What holds of all calls: what is handed in stays as it is, and what is answered is new memory.

func TestArgumentsStayAsTheyAre(t *testing.T) {
	data := append(make([]byte, 0, 32), "abc and spare room"...)
	ids := append(make([]uint64, 0, 16), 2, 5, 7, 11, 13)
	batch := append(make([]api.Entry, 0, 16), put(1, 2, 3, ""), conf(1, 2), none(9), none(10))
	batch[0].Data, batch[1].Members = data[:3], ids[:2]
	spare := fmt.Sprint(batch)
	for _, m := range []api.Msg{
		{Kind: api.MsgCopy, From: 1, To: 2, Term: 3, Entries: batch[:2]},
		{Kind: api.MsgSnap, From: 1, To: 2, Term: 3, Members: ids[:3], Image: data[:3]},
		{Kind: api.MsgSnap, From: 1, To: 2, Term: 3, Entries: batch[:3], Members: ids[:4], Image: data[:4]},
	} {
		msg.Formed(m)
		msg.Same(m, cloned(m))
		b, errno := msg.Put(m)
		if errno != api.OK && len(m.Members) != 4 {
			t.Fatal(errno)
		}
		room := append(bytes.Clone(b), "spare room"...)
		msg.Get(room[:len(b)])
		if string(room) != string(b)+"spare room" {
			t.Errorf("Get wrote over what it was handed: %q", room)
		}
	}
	if string(data) != "abc and spare room" || !slices.Equal(ids, []uint64{2, 5, 7, 11, 13}) || fmt.Sprint(batch) != spare {
		t.Errorf("the arguments became %q, %v, %v", data, ids, batch)
	}
}

// scribble writes over all memory of a message, its lists' spare room too.
func scribble(m api.Msg) {
	for _, e := range m.Entries {
		clear(e.Data[:cap(e.Data)])
		clear(e.Members[:cap(e.Members)])
	}
	clear(m.Entries[:cap(m.Entries)])
	clear(m.Members[:cap(m.Members)])
	clear(m.Image[:cap(m.Image)])
}

func TestAnswersAreNewMemory(t *testing.T) {
	for _, m := range formed() {
		before := cloned(m)
		first, _ := msg.Put(m)
		second, _ := msg.Put(m)
		clear(first[:cap(first)])
		if !bytes.Equal(second, laid(before)) || !one(m, before) {
			t.Fatalf("Put: an answer shares its memory: %.300x, %.300v", second, m)
		}
		got, _ := msg.Get(second)
		other, _ := msg.Get(second)
		scribble(got)
		if !one(other, before) || !bytes.Equal(second, laid(before)) {
			t.Fatalf("Get: an answer shares its memory: %.300v, %.300x", other, second)
		}
		clear(second)
		if !one(other, before) {
			t.Fatalf("Get: the answer became %.300v when the bytes were written over", other)
		}
	}
}

func TestListsOfOneAnswerShareNothing(t *testing.T) {
	b := laid(api.Msg{Kind: api.MsgCopy, From: 1, To: 2, Term: 3, Entries: []api.Entry{put(1, 2, 3, "ab"), put(1, 2, 4, "cd"), conf(1, 2), conf(1, 3)}})
	for i := range 4 {
		m, _ := msg.Get(b)
		whole := cloned(m)
		e := m.Entries[i]
		for at := range e.Data[:cap(e.Data)] {
			e.Data[:cap(e.Data)][at] = '!'
		}
		for at := range e.Members[:cap(e.Members)] {
			e.Members[:cap(e.Members)][at] = 99
		}
		for j := range m.Entries {
			if j != i && !oneEntry(m.Entries[j], whole.Entries[j]) {
				t.Errorf("what was written over entry %d is seen in entry %d", i, j)
			}
		}
	}
}
