package cmd_test

import (
	"bytes"
	"encoding/hex"
	"math"
	"math/rand"
	"slices"
	"strings"
	"testing"

	"tabellion/api"
	"tabellion/cmd"
)

const mostTerm = 1 << 62

// all are the ids that members may have.
var all = []uint64{1, 2, 3, 4, 5, 6, 7}

// none, put and conf answer entries of the three kinds.
func none(term uint64) api.Entry {
	return api.Entry{Term: term, Kind: api.KindNone}
}

func put(term, client, seq uint64, data string) api.Entry {
	return api.Entry{Term: term, Kind: api.KindPut, Client: client, Seq: seq, Data: []byte(data)}
}

func conf(term uint64, ids ...uint64) api.Entry {
	return api.Entry{Term: term, Kind: api.KindConf, Members: ids}
}

// edges answers the numbers around each power of 256, and the ends.
func edges() []uint64 {
	list := []uint64{0, 1, 2, 127, 128}
	for shift := 8; shift < 64; shift += 8 {
		p := uint64(1) << shift
		list = append(list, p-1, p, p+1)
	}
	return append(list, mostTerm-1, mostTerm, mostTerm+1, math.MaxInt64, math.MaxInt64+1, math.MaxUint64-1, math.MaxUint64)
}

// subsets answers all members that are formed.
func subsets() [][]uint64 {
	var list [][]uint64
	for bits := 1; bits < 1<<len(all); bits++ {
		var ids []uint64
		for i, id := range all {
			if bits>>i&1 == 1 {
				ids = append(ids, id)
			}
		}
		list = append(list, ids)
	}
	return list
}

// formed answers entries that are formed: of each kind, with the edges of each field.
func formed() []api.Entry {
	var list []api.Entry
	for _, n := range edges() {
		list = append(list, put(1, n, 0, "a"), put(1, 0, n, "a"), put(mostTerm, n, n, ""))
		if 1 <= n && n <= mostTerm {
			list = append(list, none(n), put(n, 1, 2, "text"), conf(n, 1), conf(n, all...))
		}
	}
	for size := range 65 {
		list = append(list, put(3, 4, 5, strings.Repeat("\x00", size)), put(3, 4, 5, strings.Repeat("\xff", size)))
	}
	for _, ids := range subsets() {
		list = append(list, conf(9, ids...))
	}
	return list
}

// unformed answers entries that aren't formed, each by what is wrong with it.
func unformed() map[string]api.Entry {
	list := map[string]api.Entry{
		"nothing":                  {},
		"put: data too long":       put(1, 1, 1, strings.Repeat("a", 65)),
		"put: data far too long":   put(1, 1, 1, strings.Repeat("a", 1<<16)),
		"put: members":             {Term: 1, Kind: api.KindPut, Members: []uint64{1}},
		"put: members 0":           {Term: 1, Kind: api.KindPut, Members: []uint64{0}},
		"none: client":             {Term: 1, Kind: api.KindNone, Client: 1},
		"none: seq":                {Term: 1, Kind: api.KindNone, Seq: 1},
		"none: data":               {Term: 1, Kind: api.KindNone, Data: []byte{0}},
		"none: members":            {Term: 1, Kind: api.KindNone, Members: []uint64{1}},
		"conf: client":             {Term: 1, Kind: api.KindConf, Members: []uint64{1, 2}, Client: 1},
		"conf: seq":                {Term: 1, Kind: api.KindConf, Members: []uint64{1, 2}, Seq: 1},
		"conf: data":               {Term: 1, Kind: api.KindConf, Members: []uint64{1, 2}, Data: []byte{0}},
		"conf: no members":         conf(1),
		"conf: member 0":           conf(1, 0),
		"conf: member 8":           conf(1, 1, 8),
		"conf: falling":            conf(1, 2, 1),
		"conf: twice":              conf(1, 2, 2),
		"conf: the greatest ids":   conf(1, math.MaxUint64),
		"conf: more than there be": conf(1, 1, 2, 3, 4, 5, 6, 7, 8),
	}
	for _, kind := range []int{math.MinInt, -255, -1, 0, 4, 5, 255, 256, 257, 258, 259, 1<<32 + 1, math.MaxInt} {
		list["kind "+hex.EncodeToString(bytesOf(uint64(kind)))] = api.Entry{Term: 1, Kind: kind}
	}
	for _, term := range []uint64{0, mostTerm + 1, math.MaxInt64, math.MaxUint64} {
		for _, e := range []api.Entry{none(term), put(term, 1, 1, "a"), conf(term, 1)} {
			list["term, "+hex.EncodeToString(append(bytesOf(term), byte(e.Kind)))] = e
		}
	}
	return list
}

// bytesOf are a number's bytes, as layer 1 says them.
func bytesOf(n uint64) []byte {
	var digits []byte
	for ; n > 0; n >>= 8 {
		digits = append([]byte{byte(n)}, digits...)
	}
	return append([]byte{byte(len(digits))}, digits...)
}

// laid are the bytes of an entry, as the chapter says them.
func laid(e api.Entry) []byte {
	b := append(bytesOf(e.Term), byte(e.Kind))
	if e.Kind == api.KindPut {
		b = append(b, bytesOf(e.Client)...)
		b = append(b, bytesOf(e.Seq)...)
		b = append(b, bytesOf(uint64(len(e.Data)))...)
		b = append(b, e.Data...)
	}
	if e.Kind == api.KindConf {
		b = append(b, bytesOf(uint64(len(e.Members)))...)
		for _, id := range e.Members {
			b = append(b, bytesOf(id)...)
		}
	}
	return b
}

// isZero tells whether an entry is the one that stands beside an error.
func isZero(e api.Entry) bool {
	return one(e, api.Entry{})
}

// one tells whether entries are one, without asking the package.
func one(a, b api.Entry) bool {
	return a.Term == b.Term && a.Kind == b.Kind && a.Client == b.Client && a.Seq == b.Seq && string(a.Data) == string(b.Data) && slices.Equal(a.Members, b.Members)
}

// cloned answers an entry that shares nothing with the other one.
func cloned(e api.Entry) api.Entry {
	e.Data, e.Members = bytes.Clone(e.Data), slices.Clone(e.Members)
	return e
}

// P12.1

func TestMembersThatAreFormed(t *testing.T) {
	for _, ids := range subsets() {
		if !cmd.Members(ids) {
			t.Errorf("Members(%v): false", ids)
		}
	}
}

func TestMembersThatAreNone(t *testing.T) {
	for _, ids := range [][]uint64{
		nil, {}, {0}, {8}, {0, 1}, {0, 0}, {1, 1}, {7, 7}, {2, 1}, {1, 3, 2}, {2, 3, 1}, {1, 2, 2}, {1, 8}, {7, 8}, {1, 0}, {1, 2, 0},
		{0, 1, 2, 3, 4, 5, 6}, {0, 1, 2, 3, 4, 5, 6, 7}, {1, 2, 3, 4, 5, 6, 7, 8}, {1, 2, 3, 4, 5, 6, 7, 7}, {1, 2, 3, 4, 5, 6, 8},
		{7, 6, 5, 4, 3, 2, 1}, {256}, {257}, {1<<32 + 1}, {1, 1<<32 + 2}, {math.MaxUint64}, {1, math.MaxUint64}, {1 << 63},
	} {
		if cmd.Members(ids) {
			t.Errorf("Members(%v): true", ids)
		}
	}
	if cmd.Members(slices.Repeat(all, 1<<16)) {
		t.Error("Members of very many: true")
	}
}

// TestMembersOfAllShortLists holds each list of up to five small ids against the list of those that are formed.
func TestMembersOfAllShortLists(t *testing.T) {
	good := map[string]bool{}
	for _, ids := range subsets() {
		good[digits(ids)] = true
	}
	lists := [][]uint64{nil}
	for at := 0; at < len(lists); at++ {
		ids := lists[at]
		if got := cmd.Members(ids); got != good[digits(ids)] {
			t.Fatalf("Members(%v): %v", ids, got)
		}
		if len(ids) == 5 {
			continue
		}
		for id := range uint64(10) {
			lists = append(lists, append(slices.Clone(ids), id))
		}
	}
}

// digits are small ids as a text.
func digits(ids []uint64) string {
	b := make([]byte, len(ids))
	for i, id := range ids {
		b[i] = '0' + byte(id)
	}
	return string(b)
}

func TestFormedOnes(t *testing.T) {
	for _, e := range formed() {
		if !cmd.Formed(e) {
			t.Errorf("Formed(%v): false", e)
		}
	}
}

func TestUnformedOnes(t *testing.T) {
	for what, e := range unformed() {
		if cmd.Formed(e) {
			t.Errorf("%s: formed", what)
		}
		if b, errno := cmd.Put(e); errno != api.ErrArg || len(b) > 0 {
			t.Errorf("%s: Put: %x, %d", what, b, errno)
		}
	}
}

func TestEmptyListsAreNone(t *testing.T) {
	noData, noIDs := []byte{}, []uint64{}
	for _, c := range []struct {
		e    api.Entry
		want string
	}{
		{api.Entry{Term: 1, Kind: api.KindNone, Data: noData, Members: noIDs}, "\x01\x01\x01"},
		{api.Entry{Term: 1, Kind: api.KindPut, Data: noData, Members: noIDs}, "\x01\x01\x02\x00\x00\x00"},
		{api.Entry{Term: 1, Kind: api.KindPut}, "\x01\x01\x02\x00\x00\x00"},
		{api.Entry{Term: 1, Kind: api.KindConf, Data: noData, Members: []uint64{7}}, "\x01\x01\x03\x01\x01\x01\x07"},
	} {
		if !cmd.Formed(c.e) {
			t.Errorf("%v: not formed", c.e)
		}
		if b, errno := cmd.Put(c.e); string(b) != c.want || errno != api.OK {
			t.Errorf("Put(%v): %x, %d, want %x", c.e, b, errno, c.want)
		}
	}
	if cmd.Formed(api.Entry{Term: 1, Kind: api.KindConf, Members: noIDs}) {
		t.Error("an entry of no members is formed")
	}
}

func TestPutKnown(t *testing.T) {
	for _, c := range []struct {
		e    api.Entry
		want string
	}{
		{none(1), "\x01\x01\x01"},
		{none(mostTerm), "\x08\x40\x00\x00\x00\x00\x00\x00\x00\x01"},
		{put(2, 3, 0, "a"), "\x01\x02\x02\x01\x03\x00\x01\x01a"},
		{put(256, 0, math.MaxUint64, ""), "\x02\x01\x00\x02\x00\x08\xff\xff\xff\xff\xff\xff\xff\xff\x00"},
		{put(1, 255, 65536, strings.Repeat("z", 64)), "\x01\x01\x02\x01\xff\x03\x01\x00\x00\x01\x40" + strings.Repeat("z", 64)},
		{conf(2, 1, 3), "\x01\x02\x03\x01\x02\x01\x01\x01\x03"},
		{conf(1, all...), "\x01\x01\x03\x01\x07\x01\x01\x01\x02\x01\x03\x01\x04\x01\x05\x01\x06\x01\x07"},
	} {
		if b, errno := cmd.Put(c.e); string(b) != c.want || errno != api.OK {
			t.Errorf("Put(%v): %x, %d, want %x", c.e, b, errno, c.want)
		}
	}
}

func TestPutOfAllFormed(t *testing.T) {
	for _, e := range formed() {
		if b, errno := cmd.Put(e); !bytes.Equal(b, laid(e)) || errno != api.OK {
			t.Errorf("Put(%v): %x, %d, want %x", e, b, errno, laid(e))
		}
	}
}

// P12.2

// refuse asks that bytes are refused with an error, and beside it nothing.
func refuse(t *testing.T, what, b string, want api.Errno) {
	t.Helper()
	if e, errno := cmd.Get([]byte(b)); errno != want || !isZero(e) {
		t.Errorf("%s: Get(%x): %v, %d, want %d", what, b, e, errno, want)
	}
}

func TestGetOfTerms(t *testing.T) {
	rest := "\x01"
	for what, c := range map[string]struct {
		b    string
		want api.Errno
	}{
		"nothing":                       {"", api.ErrShort},
		"0, alone":                      {"\x00", api.ErrForm}, // told ahead of the end
		"0":                             {"\x00" + rest, api.ErrForm},
		"above, alone":                  {"\x08\x40\x00\x00\x00\x00\x00\x00\x01", api.ErrForm},
		"above":                         {"\x08\x40\x00\x00\x00\x00\x00\x00\x01" + rest, api.ErrForm},
		"above by its first digit":      {"\x08\x80\x00\x00\x00\x00\x00\x00\x00" + rest, api.ErrForm},
		"the greatest number":           {"\x08\xff\xff\xff\xff\xff\xff\xff\xff" + rest, api.ErrForm},
		"above, cut":                    {"\x08\x40\x00\x00\x00\x00\x00\x00", api.ErrShort},
		"no digits":                     {"\x01", api.ErrShort},
		"one digit of two":              {"\x02\x01", api.ErrShort},
		"a longer form":                 {"\x02\x00\x01" + rest, api.ErrForm},
		"a longer form of 0":            {"\x01\x00" + rest, api.ErrForm},
		"nine digits":                   {"\x09\x01\x01\x01\x01\x01\x01\x01\x01\x01" + rest, api.ErrForm},
		"nine digits that aren't there": {"\x09", api.ErrForm},
		"a good one, alone":             {"\x01\x01", api.ErrShort},
		"the greatest one, alone":       {"\x08\x40\x00\x00\x00\x00\x00\x00\x00", api.ErrShort},
	} {
		refuse(t, what, c.b, c.want)
	}
}

func TestGetOfKinds(t *testing.T) {
	for kind := range 256 {
		if kind == api.KindNone || kind == api.KindPut || kind == api.KindConf {
			continue
		}
		for _, rest := range []string{"", "\x00", "\x00\x00\x00", "\x01\x01\x01\x01", "\xff\xff"} {
			refuse(t, "a kind that is none", "\x01\x01"+string([]byte{byte(kind)})+rest, api.ErrForm)
		}
	}
}

func TestGetOfPuts(t *testing.T) {
	front := "\x01\x01\x02"
	text64, text65 := strings.Repeat("a", 64), strings.Repeat("a", 65)
	for what, c := range map[string]struct {
		b    string
		want api.Errno
	}{
		"no client":                         {"", api.ErrShort},
		"client: no digits":                 {"\x01", api.ErrShort},
		"client: a longer form":             {"\x01\x00\x00\x00", api.ErrForm},
		"client: nine digits":               {"\x09\x00\x00", api.ErrForm},
		"no seq":                            {"\x00", api.ErrShort},
		"seq: cut":                          {"\x00\x08\x01\x01", api.ErrShort},
		"seq: a longer form":                {"\x00\x02\x00\x07\x00", api.ErrForm},
		"seq: nine digits":                  {"\x00\x09\x00", api.ErrForm},
		"no data":                           {"\x00\x00", api.ErrShort},
		"data: its length is cut":           {"\x00\x00\x01", api.ErrShort},
		"data: a longer form of its length": {"\x00\x00\x02\x00\x01a", api.ErrForm},
		"data: nine digits":                 {"\x00\x00\x09", api.ErrForm},
		"data: cut":                         {"\x00\x00\x01\x02a", api.ErrShort},
		"data: 64, cut":                     {"\x00\x00\x01\x40" + text64[1:], api.ErrShort},
		"data: 65":                          {"\x00\x00\x01\x41" + text65, api.ErrLong},
		"data: 65, and none there":          {"\x00\x00\x01\x41", api.ErrLong},
		"data: 65, and more there":          {"\x00\x00\x01\x41" + text65 + "a", api.ErrLong},
		"data: 256":                         {"\x00\x00\x02\x01\x00" + strings.Repeat("a", 256), api.ErrLong},
		"data: 2^63":                        {"\x00\x00\x08\x80\x00\x00\x00\x00\x00\x00\x00", api.ErrLong},
		"data: the greatest number":         {"\x00\x00\x08\xff\xff\xff\xff\xff\xff\xff\xff", api.ErrLong},
		"a byte left":                       {"\x00\x00\x00\x00", api.ErrTail},
		"a byte left behind 64":             {"\x00\x00\x01\x40" + text65, api.ErrTail},
	} {
		refuse(t, what, front+c.b, c.want)
	}
}

func TestGetOfConfs(t *testing.T) {
	front := "\x01\x01\x03"
	seven := string(laid(conf(1, all...)))[len(front)+2:]
	for what, c := range map[string]struct {
		b    string
		want api.Errno
	}{
		"no count":                        {"", api.ErrShort},
		"count: no digits":                {"\x01", api.ErrShort},
		"count: a longer form":            {"\x02\x00\x01\x01\x01", api.ErrForm},
		"count: nine digits":              {"\x09", api.ErrForm},
		"count: 0":                        {"\x00", api.ErrForm},
		"count: 0, and bytes behind":      {"\x00\x01\x01", api.ErrForm},
		"count: 8, alone":                 {"\x01\x08", api.ErrForm}, // told ahead of the end
		"count: 8":                        {"\x01\x08" + seven + "\x01\x08", api.ErrForm},
		"count: 256":                      {"\x02\x01\x00" + seven, api.ErrForm},
		"count: 257":                      {"\x02\x01\x01\x01\x01", api.ErrForm},
		"count: 2^32 + 1":                 {"\x05\x01\x00\x00\x00\x01\x01\x01", api.ErrForm},
		"count: the greatest number":      {"\x08\xff\xff\xff\xff\xff\xff\xff\xff", api.ErrForm},
		"no member":                       {"\x01\x01", api.ErrShort},
		"member: no digits":               {"\x01\x01\x01", api.ErrShort},
		"member: a longer form":           {"\x01\x01\x02\x00\x01", api.ErrForm},
		"member: nine digits":             {"\x01\x01\x09", api.ErrForm},
		"member 0, alone":                 {"\x01\x01\x00", api.ErrForm},
		"member 0, and another to come":   {"\x01\x02\x00", api.ErrForm},
		"member 8":                        {"\x01\x01\x01\x08", api.ErrForm},
		"member 8, and another to come":   {"\x01\x02\x01\x08", api.ErrForm},
		"member 257":                      {"\x01\x01\x02\x01\x01", api.ErrForm},
		"member: the greatest number":     {"\x01\x01\x08\xff\xff\xff\xff\xff\xff\xff\xff", api.ErrForm},
		"one of two":                      {"\x01\x02\x01\x01", api.ErrShort},
		"twice":                           {"\x01\x02\x01\x03\x01\x03", api.ErrForm},
		"twice, and another to come":      {"\x01\x03\x01\x03\x01\x03", api.ErrForm},
		"falling":                         {"\x01\x02\x01\x03\x01\x02", api.ErrForm},
		"the last one falling":            {"\x01\x03\x01\x01\x01\x03\x01\x02", api.ErrForm},
		"the last one 0":                  {"\x01\x02\x01\x01\x00", api.ErrForm},
		"the last one 8":                  {"\x01\x02\x01\x01\x01\x08", api.ErrForm},
		"a member in a longer form, last": {"\x01\x02\x01\x01\x02\x00\x02", api.ErrForm},
		"a byte left":                     {"\x01\x01\x01\x01\x00", api.ErrTail},
		"a member left":                   {"\x01\x01\x01\x01\x01\x02", api.ErrTail},
		"a byte left behind seven":        {"\x01\x07" + seven + "\x00", api.ErrTail},
		"a falling one, and bytes left":   {"\x01\x02\x01\x03\x01\x02\x00", api.ErrForm},
	} {
		refuse(t, what, front+c.b, c.want)
	}
}

func TestGetOfEachLength(t *testing.T) {
	for _, e := range []api.Entry{none(1), none(mostTerm), put(1, 0, 0, ""), put(mostTerm, math.MaxUint64, math.MaxUint64, strings.Repeat("a", 64)), conf(1, 1), conf(mostTerm, all...)} {
		whole := string(laid(e))
		for n := range len(whole) {
			refuse(t, "cut", whole[:n], api.ErrShort)
		}
		for n := 1; n < 100; n++ {
			refuse(t, "with bytes behind", whole+strings.Repeat("\x00", n), api.ErrTail)
		}
		refuse(t, "twice", whole+whole, api.ErrTail)
	}
	if e, errno := cmd.Get(nil); errno != api.ErrShort || !isZero(e) {
		t.Errorf("Get(nil): %v, %d", e, errno)
	}
	refuse(t, "with very many bytes behind", string(laid(none(1)))+strings.Repeat("a", 1<<20), api.ErrTail)
}

// model reads as the chapter says it; behind its first fault it reads nothing more.
type model struct {
	b    []byte
	flaw api.Errno
}

// fault notes a fault, if there is one, and it is the first.
func (m *model) fault(is bool, errno api.Errno) bool {
	if is && m.flaw == api.OK {
		m.flaw = errno
	}
	return m.flaw != api.OK
}

func (m *model) octet() byte {
	if m.fault(len(m.b) == 0, api.ErrShort) {
		return 0
	}
	c := m.b[0]
	m.b = m.b[1:]
	return c
}

func (m *model) number() uint64 {
	k := int(m.octet())
	if m.fault(k > 8, api.ErrForm) || k == 0 {
		return 0
	}
	if m.fault(len(m.b) == 0, api.ErrShort) || m.fault(m.b[0] == 0, api.ErrForm) || m.fault(len(m.b) < k, api.ErrShort) {
		return 0
	}
	var n uint64
	for _, c := range m.b[:k] {
		n = n*256 + uint64(c)
	}
	m.b = m.b[k:]
	return n
}

func (m *model) text() []byte {
	n := m.number()
	if m.fault(n > 64, api.ErrLong) || m.fault(n > uint64(len(m.b)), api.ErrShort) {
		return nil
	}
	text := m.b[:n]
	m.b = m.b[n:]
	return text
}

func (m *model) members() (ids []uint64) {
	count := m.number()
	if m.fault(count == 0 || count > 7, api.ErrForm) {
		return nil
	}
	for range count {
		id := m.number()
		m.fault(id < 1 || id > 7 || slices.ContainsFunc(ids, func(other uint64) bool { return other >= id }), api.ErrForm)
		ids = append(ids, id)
	}
	return ids
}

// read answers what Get is to answer.
func read(b []byte) (api.Entry, api.Errno) {
	m := &model{b: b}
	e := api.Entry{Term: m.number()}
	m.fault(e.Term < 1 || e.Term > mostTerm, api.ErrForm)
	e.Kind = int(m.octet())
	m.fault(e.Kind < 1 || e.Kind > 3, api.ErrForm)
	switch e.Kind {
	case 2:
		e.Client, e.Seq = m.number(), m.number()
		e.Data = m.text()
	case 3:
		e.Members = m.members()
	}
	if m.fault(len(m.b) > 0, api.ErrTail) {
		return api.Entry{}, m.flaw
	}
	return e, api.OK
}

// check holds Get against the model, and, where it answers an entry, Put against the bytes.
func check(t *testing.T, b []byte) {
	t.Helper()
	e, errno := cmd.Get(b)
	want, flaw := read(b)
	if errno != flaw || !one(e, want) {
		t.Fatalf("Get(%x): %v, %d, want %v, %d", b, e, errno, want, flaw)
	}
	if errno != api.OK {
		return
	}
	if again, errno := cmd.Put(e); !bytes.Equal(again, b) || errno != api.OK || !cmd.Formed(e) {
		t.Fatalf("Put(%v): %x, %d, want %x", e, again, errno, b)
	}
}

// checkAll checks all texts that begin so, go on with these letters, and have at most so many bytes.
func checkAll(t *testing.T, front, letters []byte, most int) {
	t.Helper()
	check(t, front)
	if len(front) == most {
		return
	}
	for _, c := range letters {
		checkAll(t, append(bytes.Clone(front), c), letters, most)
	}
}

func TestGetOfAllShortTexts(t *testing.T) {
	checkAll(t, nil, []byte{0, 1, 2, 3, 4, 7, 8, 9, 64, 65, 255}, 5)
}

func TestGetOfAllShortConfs(t *testing.T) {
	checkAll(t, []byte{1, 1, api.KindConf}, []byte{0, 1, 2, 3, 7, 8}, 9)
}

// turned answers bytes of which a few were written over, put in, or taken out.
func turned(source *rand.Rand, b []byte) []byte {
	b = bytes.Clone(b)
	small := []byte{0, 1, 2, 3, 4, 7, 8, 9, 64, 65, 128, 255}
	for range 1 + source.Intn(2) {
		at := source.Intn(len(b) + 1)
		c := small[source.Intn(len(small))]
		switch {
		case at == len(b) || source.Intn(3) == 0:
			b = slices.Insert(b, at, c)
		case source.Intn(2) == 0:
			b = slices.Delete(b, at, at+1)
		default:
			b[at] = c
		}
	}
	return b
}

func TestGetOfTurnedBytes(t *testing.T) {
	source := rand.New(rand.NewSource(12))
	list := formed()
	for range 100000 {
		check(t, turned(source, laid(list[source.Intn(len(list))])))
	}
}

// P12.3

func TestGetUndoesPut(t *testing.T) {
	for _, e := range formed() {
		b, errno := cmd.Put(e)
		if errno != api.OK {
			t.Fatalf("Put(%v): %d", e, errno)
		}
		if got, errno := cmd.Get(b); errno != api.OK || !one(got, e) || !cmd.Same(got, e) {
			t.Errorf("Get(Put(%v)): %v, %d", e, got, errno)
		}
	}
}

func TestNoTwoHaveTheSameBytes(t *testing.T) {
	seen := map[string]api.Entry{}
	for _, e := range formed() {
		b, _ := cmd.Put(e)
		if other, is := seen[string(b)]; is && !one(other, e) {
			t.Errorf("%v and %v: %x", other, e, b)
		}
		seen[string(b)] = e
	}
}

// P12.4

func TestSameOfEachTwo(t *testing.T) {
	list := []api.Entry{{}, {Term: math.MaxUint64, Kind: -1, Client: 5, Seq: 6, Data: make([]byte, 1000), Members: make([]uint64, 1000)}}
	full := api.Entry{Term: 1, Kind: 2, Client: 3, Seq: 4, Data: []byte("ab"), Members: []uint64{5, 6}}
	list = append(list, full)
	for _, turn := range []func(e *api.Entry){
		func(e *api.Entry) { e.Term = 2 },
		func(e *api.Entry) { e.Term += 1 << 32 },
		func(e *api.Entry) { e.Kind = 1 },
		func(e *api.Entry) { e.Kind += 256 },
		func(e *api.Entry) { e.Client = 4 },
		func(e *api.Entry) { e.Seq = 3 },
		func(e *api.Entry) { e.Client, e.Seq = e.Seq, e.Client },
		func(e *api.Entry) { e.Data = nil },
		func(e *api.Entry) { e.Data = []byte("a") },
		func(e *api.Entry) { e.Data = []byte("ac") },
		func(e *api.Entry) { e.Data = []byte("cb") },
		func(e *api.Entry) { e.Data = []byte("ab\x00") },
		func(e *api.Entry) { e.Members = nil },
		func(e *api.Entry) { e.Members = []uint64{5} },
		func(e *api.Entry) { e.Members = []uint64{5, 7} },
		func(e *api.Entry) { e.Members = []uint64{6, 5} },
		func(e *api.Entry) { e.Members = []uint64{5, 6, 0} },
		func(e *api.Entry) { e.Members = []uint64{5 + 1<<32, 6} },
	} {
		e := cloned(full)
		turn(&e)
		list = append(list, e)
	}
	for i, a := range list {
		for j, b := range list {
			if got := cmd.Same(a, cloned(b)); got != (i == j) {
				t.Errorf("Same(%v, %v): %v", a, b, got)
			}
		}
	}
}

func TestSameOfEmptyLists(t *testing.T) {
	empty := api.Entry{Data: []byte{}, Members: []uint64{}}
	if !cmd.Same(empty, api.Entry{}) || !cmd.Same(api.Entry{}, empty) || !cmd.Same(empty, empty) {
		t.Error("nil and empty lists aren't one")
	}
	if cmd.Same(empty, api.Entry{Data: []byte{0}}) || cmd.Same(empty, api.Entry{Members: []uint64{0}}) {
		t.Error("an empty list is one with a list of a zero")
	}
}

// What holds of all calls: what is handed in stays as it is, and what is answered is new memory.

func TestArgumentsStayAsTheyAre(t *testing.T) {
	data := append(make([]byte, 0, 32), "abc and spare room"...)
	ids := append(make([]uint64, 0, 16), 2, 5, 7, 11, 13)
	e := api.Entry{Term: 1, Kind: api.KindPut, Data: data[:3]}
	c := api.Entry{Term: 1, Kind: api.KindConf, Members: ids[:3]}
	for _, e := range []api.Entry{e, c} {
		cmd.Formed(e)
		cmd.Members(e.Members)
		cmd.Same(e, e)
		b, errno := cmd.Put(e)
		if errno != api.OK {
			t.Fatal(errno)
		}
		room := append(bytes.Clone(b), "spare room"...)
		cmd.Get(room[:len(b)])
		if string(room) != string(b)+"spare room" {
			t.Errorf("Get wrote over what it was handed: %q", room)
		}
	}
	if string(data) != "abc and spare room" || !slices.Equal(ids, []uint64{2, 5, 7, 11, 13}) {
		t.Errorf("the arguments became %q, %v", data, ids)
	}
}

func TestAnswersAreNewMemory(t *testing.T) {
	for _, e := range []api.Entry{none(1), put(1, 2, 3, "text"), conf(1, 2, 5, 7)} {
		before := cloned(e)
		first, _ := cmd.Put(e)
		second, _ := cmd.Put(e)
		clear(first[:cap(first)])
		if !bytes.Equal(second, laid(before)) || !one(e, before) {
			t.Errorf("Put: an answer shares its memory: %x, %v", second, e)
		}
		got, _ := cmd.Get(second)
		other, _ := cmd.Get(second)
		clear(got.Data[:cap(got.Data)])
		clear(got.Members[:cap(got.Members)])
		if !one(other, before) || !bytes.Equal(second, laid(before)) {
			t.Errorf("Get: an answer shares its memory: %v, %x", other, second)
		}
		clear(second)
		if !one(other, before) {
			t.Errorf("Get: the answer became %v when the bytes were written over", other)
		}
	}
}
