package msg_test

import (
	"bytes"
	"math/rand"
	"slices"
	"strings"
	"testing"

	"tabellion/api"
	"tabellion/msg"
)

// P18.2

// refuse asks that bytes are refused with an error, and beside it nothing.
func refuse(t *testing.T, what, b string, want api.Errno) {
	t.Helper()
	if m, errno := msg.Get([]byte(b)); errno != want || !one(m, api.Msg{}) {
		t.Errorf("%s: Get(%.300x): %.300v, %d, want %d", what, b, m, errno, want)
	}
}

// Ways to say a number that is none, or one that is out of a range, and the error.
type said struct {
	b    string
	want api.Errno
}

// unreadable are numbers that can't be read, whatever may stand there.
func unreadable() map[string]said {
	return map[string]said{
		"none":                          {"", api.ErrShort},
		"no digits":                     {"\x01", api.ErrShort},
		"one digit of two":              {"\x02\x01", api.ErrShort},
		"cut":                           {"\x08\x01\x02\x03\x04\x05\x06\x07", api.ErrShort},
		"a longer form":                 {"\x02\x00\x01", api.ErrForm},
		"a longer form of 0":            {"\x01\x00", api.ErrForm},
		"nine digits":                   {"\x09\x01\x01\x01\x01\x01\x01\x01\x01\x01", api.ErrForm},
		"nine digits that aren't there": {"\x09", api.ErrForm},
	}
}

// above are numbers above MaxTerm.
func above() map[string]said {
	return map[string]said{
		"one above":             {"\x08\x40\x00\x00\x00\x00\x00\x00\x01", api.ErrForm},
		"above by its front":    {"\x08\x80\x00\x00\x00\x00\x00\x00\x00", api.ErrForm},
		"the greatest number":   {"\x08\xff\xff\xff\xff\xff\xff\xff\xff", api.ErrForm},
		"the greatest of 63":    {"\x08\x7f\xff\xff\xff\xff\xff\xff\xff", api.ErrForm},
		"above, a digit is cut": {"\x08\x40\x00\x00\x00\x00\x00\x00", api.ErrShort},
	}
}

// noNode are numbers that are no node.
func noNode() map[string]said {
	return map[string]said{
		"0":      {"\x00", api.ErrForm},
		"8":      {"\x01\x08", api.ErrForm},
		"257":    {"\x02\x01\x01", api.ErrForm},
		"2^32+1": {"\x05\x01\x00\x00\x00\x01", api.ErrForm},
		"2^64-1": {"\x08\xff\xff\xff\xff\xff\xff\xff\xff", api.ErrForm},
	}
}

// refuseAll asks that each number is refused behind a front; if it is one that is there, whatever comes behind it.
func refuseAll(t *testing.T, what, front string, lists ...map[string]said) {
	t.Helper()
	for _, list := range lists {
		for which, c := range list {
			refuse(t, what+": "+which, front+c.b, c.want)
			if c.want != api.ErrShort {
				refuse(t, what+": "+which+", and more", front+c.b+"\x01\x01\x01\x01\x01\x01\x01\x01", c.want)
				refuse(t, what+": "+which+", and what is none", front+c.b+"\xff\xff\xff\xff", c.want)
			}
		}
	}
}

func TestGetOfKinds(t *testing.T) {
	refuse(t, "nothing", "", api.ErrShort)
	for kind := range 256 {
		front := string([]byte{byte(kind)})
		want := api.ErrForm
		if 1 <= kind && kind <= 5 {
			want = api.ErrShort
		}
		refuse(t, "a kind, alone", front, want)
		if want == api.ErrForm {
			refuse(t, "a kind that is none", front+"\x01\x01\x01\x02\x01\x03\x00\x00", want)
			refuse(t, "a kind that is none, and faults behind", front+"\xff\xff", want)
		}
	}
}

func TestGetOfHeads(t *testing.T) {
	term0 := map[string]said{"0": {"\x00", api.ErrForm}}
	for kind := api.MsgAsk; kind <= api.MsgSnap; kind++ {
		front := string([]byte{byte(kind)})
		refuseAll(t, "from", front, unreadable(), noNode())
		refuseAll(t, "to", front+"\x01\x07", unreadable(), noNode())
		refuseAll(t, "term", front+"\x01\x07\x01\x01", unreadable(), above(), term0)
	}
}

func TestGetOfNumbers(t *testing.T) {
	head := "\x01\x01\x01\x02\x01\x03"
	for kind, ranged := range map[string]string{ // whether the numbers of a kind have a range, in their order
		"\x01": "yy",
		"\x03": "yyyn",
		"\x05": "yyn",
	} {
		for at := range ranged {
			for _, ahead := range []string{"\x00", "\x01\x01", "\x08\x40\x00\x00\x00\x00\x00\x00\x00"} {
				front := kind + head[:4] + "\x01\x03" + strings.Repeat(ahead, at)
				refuseAll(t, "a number", front, unreadable())
				if ranged[at] == 'y' {
					refuseAll(t, "a number", front, above())
				}
			}
		}
	}
	front := "\x04" + head[:4] + "\x01\x03\x01"
	refuseAll(t, "kept: index", front, unreadable(), above())
	refuseAll(t, "kept: stamp", front+"\x00", unreadable())
}

func TestGetOfYes(t *testing.T) {
	for _, front := range []string{"\x02\x01\x01\x01\x02\x01\x03", "\x04\x01\x01\x01\x02\x01\x03"} {
		refuse(t, "no yes", front, api.ErrShort)
		for c := 2; c < 256; c++ {
			refuse(t, "yes, alone", front+string([]byte{byte(c)}), api.ErrForm)
			refuse(t, "yes, and more", front+string([]byte{byte(c)})+"\x00\x00", api.ErrForm)
			refuse(t, "yes, and faults behind", front+string([]byte{byte(c)})+"\xff", api.ErrForm)
		}
	}
}

func TestGetOfEntries(t *testing.T) {
	front := "\x03\x01\x01\x01\x02\x01\x03\x00\x00\x00\x00"
	good := "\x01\x03\x01\x01\x01"
	refuseAll(t, "how many", front, unreadable())
	for what, c := range map[string]said{
		"five, alone":                           {"\x01\x05", api.ErrLong}, // told ahead of the end
		"five":                                  {"\x01\x05" + strings.Repeat(good, 5), api.ErrLong},
		"five, and faults behind":               {"\x01\x05\xff", api.ErrLong},
		"256":                                   {"\x02\x01\x00" + good, api.ErrLong},
		"257":                                   {"\x02\x01\x01" + good, api.ErrLong},
		"2^32 + 1":                              {"\x05\x01\x00\x00\x00\x01" + good, api.ErrLong},
		"2^63":                                  {"\x08\x80\x00\x00\x00\x00\x00\x00\x00", api.ErrLong},
		"the greatest number":                   {"\x08\xff\xff\xff\xff\xff\xff\xff\xff", api.ErrLong},
		"none of one":                           {"\x01\x01", api.ErrShort},
		"three of four":                         {"\x01\x04" + strings.Repeat(good, 3), api.ErrShort},
		"five of four":                          {"\x01\x04" + strings.Repeat(good, 5), api.ErrTail},
		"one of none":                           {"\x00" + good, api.ErrTail},
		"a byte left behind four":               {"\x01\x04" + strings.Repeat(good, 4) + "\x00", api.ErrTail},
		"a text in a longer form":               {"\x01\x01\x02\x00\x03\x01\x01\x01", api.ErrForm},
		"a text of nine digits":                 {"\x01\x01\x09", api.ErrForm},
		"a text that is cut":                    {"\x01\x01\x01\x03\x01\x01", api.ErrShort},
		"a text of 128 that is cut":             {"\x01\x01\x01\x80" + strings.Repeat("\x01", 127), api.ErrShort},
		"a text of 128":                         {"\x01\x01\x01\x80" + strings.Repeat("\x01", 128), api.ErrTail},
		"a text of 128, of zeros":               {"\x01\x01\x01\x80" + strings.Repeat("\x00", 128), api.ErrForm},
		"a text of 129":                         {"\x01\x01\x01\x81" + strings.Repeat("\x01", 129), api.ErrLong},
		"a text of 129 that isn't there":        {"\x01\x01\x01\x81", api.ErrLong},
		"a text of 256":                         {"\x01\x01\x02\x01\x00" + strings.Repeat("\x01", 256), api.ErrLong},
		"a text of 2^64 - 1":                    {"\x01\x01\x08\xff\xff\xff\xff\xff\xff\xff\xff", api.ErrLong},
		"an empty text":                         {"\x01\x01\x00", api.ErrShort},
		"an empty text, and bytes behind":       {"\x01\x01\x00\x01\x01\x01", api.ErrShort},
		"an empty text, and a good one":         {"\x01\x02\x00" + good, api.ErrShort},
		"a text that ends too early by itself":  {"\x01\x02\x01\x02\x01\x01" + good, api.ErrShort},
		"a text with a byte left":               {"\x01\x01\x01\x04\x01\x01\x01\x00", api.ErrTail},
		"a text with a byte left, and a fault":  {"\x01\x02\x01\x04\x01\x01\x01\x00\xff", api.ErrTail},
		"a text of no term":                     {"\x01\x01\x01\x02\x00\x01", api.ErrForm},
		"a text of another kind":                {"\x01\x01\x01\x03\x01\x01\x04", api.ErrForm},
		"a text of too much data":               {"\x01\x01\x01\x09\x01\x01\x02\x00\x00\x01\x41aa", api.ErrLong},
		"a text of members that fall":           {"\x01\x01\x01\x09\x01\x01\x03\x01\x02\x01\x02\x01\x01", api.ErrForm},
		"a text of no members":                  {"\x01\x01\x01\x04\x01\x01\x03\x00", api.ErrForm},
		"a good text, and one that is none":     {"\x01\x02" + good + "\x01\x03\x01\x01\x09", api.ErrForm},
		"a text that is none, and one cut":      {"\x01\x02\x01\x03\x01\x01\x09\x01\x03\x01", api.ErrForm},
		"a good text, and one that is cut":      {"\x01\x02" + good + "\x01\x03\x01", api.ErrShort},
		"the fourth text is too long":           {"\x01\x04" + strings.Repeat(good, 3) + "\x01\x81", api.ErrLong},
		"the fourth text is none":               {"\x01\x04" + strings.Repeat(good, 3) + "\x01\x01\x00", api.ErrForm},
		"a text that is none, and a byte left":  {"\x01\x01\x01\x03\x01\x01\x09\x00", api.ErrForm},
		"a text that ends early, and one wrong": {"\x01\x02\x01\x01\x01\x01\x03\x00\x00\x00", api.ErrShort},
	} {
		refuse(t, what, front+c.b, c.want)
	}
}

func TestGetOfMembers(t *testing.T) {
	front := "\x05\x01\x01\x01\x02\x01\x03\x00\x00\x00"
	seven := string(laidList(all))[2:]
	refuseAll(t, "how many", front, unreadable())
	refuseAll(t, "how many", front, noNode()) // as many as there are ids: the same numbers are out of range
	refuseAll(t, "the first of one", front+"\x01\x01", unreadable(), noNode())
	refuseAll(t, "the first of seven", front+"\x01\x07", unreadable(), noNode())
	refuseAll(t, "the second", front+"\x01\x02\x01\x03", unreadable(), noNode())
	refuseAll(t, "the second", front+"\x01\x02\x01\x03", map[string]said{"1": {"\x01\x01", api.ErrForm}, "2": {"\x01\x02", api.ErrForm}, "3": {"\x01\x03", api.ErrForm}})
	refuseAll(t, "the seventh", front+"\x01\x07"+seven[:12], unreadable(), noNode())
	refuseAll(t, "the seventh", front+"\x01\x07"+seven[:12], map[string]said{"1": {"\x01\x01", api.ErrForm}, "6": {"\x01\x06", api.ErrForm}})
	refuse(t, "one of two", front+"\x01\x02\x01\x01", api.ErrShort)
	refuse(t, "no image", front+"\x01\x07"+seven, api.ErrShort)
}

func TestGetOfImages(t *testing.T) {
	front := "\x05\x01\x01\x01\x02\x01\x03\x00\x00\x00\x01\x01\x01\x07"
	most := string(image(mostImage))
	refuseAll(t, "how long", front, unreadable())
	for what, c := range map[string]said{
		"cut":                            {"\x01\x02a", api.ErrShort},
		"the longest, cut":               {"\x02\x40\x00" + most[1:], api.ErrShort},
		"the longest, not there":         {"\x02\x40\x00", api.ErrShort},
		"one longer":                     {"\x02\x40\x01" + most + "a", api.ErrLong},
		"one longer, not there":          {"\x02\x40\x01", api.ErrLong},
		"one longer, and more":           {"\x02\x40\x01" + most + "ab", api.ErrLong},
		"2^16":                           {"\x03\x01\x00\x00" + strings.Repeat(most, 4), api.ErrLong},
		"2^63":                           {"\x08\x80\x00\x00\x00\x00\x00\x00\x00", api.ErrLong},
		"the greatest number":            {"\x08\xff\xff\xff\xff\xff\xff\xff\xff", api.ErrLong},
		"a byte left":                    {"\x00\x00", api.ErrTail},
		"a byte left behind the longest": {"\x02\x40\x00" + most + "a", api.ErrTail},
	} {
		refuse(t, what, front+c.b, c.want)
	}
}

func TestGetOfEachLength(t *testing.T) {
	for _, m := range append(lawful(),
		api.Msg{Kind: api.MsgCopy, From: 1, To: 2, Term: mostTerm, Stamp: 300, Entries: []api.Entry{none(1), put(2, 3, 4, "text"), conf(5, all...), put(1, 0, 0, "")}},
		api.Msg{Kind: api.MsgSnap, From: 7, To: 6, Term: 5, Index: 4, LogTerm: 3, Stamp: 2, Members: all, Image: image(300)},
	) {
		whole := string(laid(m))
		for n := range len(whole) {
			refuse(t, "cut", whole[:n], api.ErrShort)
		}
		for n := 1; n < 100; n++ {
			refuse(t, "with bytes behind", whole+strings.Repeat("\x00", n), api.ErrTail)
		}
		refuse(t, "twice", whole+whole, api.ErrTail)
	}
	if m, errno := msg.Get(nil); errno != api.ErrShort || !one(m, api.Msg{}) {
		t.Errorf("Get(nil): %v, %d", m, errno)
	}
	refuse(t, "with very many bytes behind", string(laid(headed(api.MsgAsk)))+strings.Repeat("a", 1<<20), api.ErrTail)
}

// model reads as the chapters say it; behind its first fault it reads nothing more.
type model struct {
	b    []byte
	flaw api.Errno
}

// fault notes a fault, if there is one, and it is the first.
func (m *model) fault(is bool, errno api.Errno) bool {
	if is && m.flaw == api.OK {
		m.flaw = errno
	}
	return m.flaw != api.OK
}

func (m *model) octet() byte {
	if m.fault(len(m.b) == 0, api.ErrShort) {
		return 0
	}
	c := m.b[0]
	m.b = m.b[1:]
	return c
}

func (m *model) number() uint64 {
	k := int(m.octet())
	if m.fault(k > 8, api.ErrForm) || k == 0 {
		return 0
	}
	if m.fault(len(m.b) == 0, api.ErrShort) || m.fault(m.b[0] == 0, api.ErrForm) || m.fault(len(m.b) < k, api.ErrShort) {
		return 0
	}
	var n uint64
	for _, c := range m.b[:k] {
		n = n*256 + uint64(c)
	}
	m.b = m.b[k:]
	return n
}

func (m *model) ranged(least, most uint64) uint64 {
	n := m.number()
	m.fault(n < least || n > most, api.ErrForm)
	return n
}

func (m *model) text(most uint64) []byte {
	n := m.number()
	if m.fault(n > most, api.ErrLong) || m.fault(n > uint64(len(m.b)), api.ErrShort) {
		return nil
	}
	text := m.b[:n]
	m.b = m.b[n:]
	return text
}

func (m *model) yes() bool {
	c := m.octet()
	m.fault(c > 1, api.ErrForm)
	return c == 1
}

func (m *model) members() (ids []uint64) {
	count := m.number()
	if m.fault(count == 0 || count > 7, api.ErrForm) {
		return nil
	}
	for range count {
		id := m.number()
		m.fault(id < 1 || id > 7 || slices.ContainsFunc(ids, func(other uint64) bool { return other >= id }), api.ErrForm)
		ids = append(ids, id)
	}
	return ids
}

// entry reads an entry that has a text of its own.
func (m *model) entry() api.Entry {
	own := &model{b: m.text(128), flaw: m.flaw}
	e := api.Entry{Term: own.ranged(1, mostTerm), Kind: int(own.octet())}
	own.fault(e.Kind < 1 || e.Kind > 3, api.ErrForm)
	switch e.Kind {
	case 2:
		e.Client, e.Seq = own.number(), own.number()
		e.Data = own.text(64)
	case 3:
		e.Members = own.members()
	}
	own.fault(len(own.b) > 0, api.ErrTail)
	m.fault(own.flaw != api.OK, own.flaw)
	return e
}

func (m *model) entries() (list []api.Entry) {
	count := m.number()
	if m.fault(count > 4, api.ErrLong) {
		return nil
	}
	for range count {
		list = append(list, m.entry())
	}
	return list
}

// read answers what Get is to answer.
func read(b []byte) (api.Msg, api.Errno) {
	r := &model{b: b}
	m := api.Msg{Kind: int(r.octet())}
	r.fault(m.Kind < 1 || m.Kind > 5, api.ErrForm)
	m.From, m.To, m.Term = r.ranged(1, 7), r.ranged(1, 7), r.ranged(1, mostTerm)
	if m.Kind == 2 || m.Kind == 4 {
		m.Yes = r.yes()
	}
	if m.Kind != 2 {
		m.Index = r.ranged(0, mostTerm)
	}
	if m.Kind%2 == 1 {
		m.LogTerm = r.ranged(0, mostTerm)
	}
	if m.Kind == 3 {
		m.Commit = r.ranged(0, mostTerm)
	}
	if m.Kind > 2 {
		m.Stamp = r.number()
	}
	switch m.Kind {
	case 3:
		m.Entries = r.entries()
	case 5:
		m.Members = r.members()
		m.Image = r.text(mostImage)
	}
	if r.fault(len(r.b) > 0, api.ErrTail) {
		return api.Msg{}, r.flaw
	}
	return m, api.OK
}

// seen counts what a check came to.
type seen map[api.Errno]int

// check holds Get against the model, and, where it answers a message, Put against the bytes.
func (s seen) check(t *testing.T, b []byte) {
	t.Helper()
	m, errno := msg.Get(b)
	want, flaw := read(b)
	if errno != flaw || !one(m, want) {
		t.Fatalf("Get(%.300x): %.300v, %d, want %.300v, %d", b, m, errno, want, flaw)
	}
	s[errno]++
	if errno != api.OK {
		return
	}
	if again, errno := msg.Put(m); !bytes.Equal(again, b) || errno != api.OK || !msg.Formed(m) {
		t.Fatalf("Put(%.300v): %.300x, %d, want %.300x", m, again, errno, b)
	}
}

// checkAll checks all texts that begin so, go on with these letters, and have at most so many bytes more.
func (s seen) checkAll(t *testing.T, front string, letters string, more int) {
	t.Helper()
	s.check(t, []byte(front))
	if more == 0 {
		return
	}
	for i := range len(letters) {
		s.checkAll(t, front+letters[i:i+1], letters, more-1)
	}
}

// enough asks that each of some answers came up.
func (s seen) enough(t *testing.T, least int, wanted ...api.Errno) {
	t.Helper()
	for _, errno := range wanted {
		if s[errno] < least {
			t.Errorf("the answer %d came up %d times", errno, s[errno])
		}
	}
}

func TestGetOfAllShortTexts(t *testing.T) {
	s := seen{}
	head := "\x01\x01\x01\x02\x01\x03"
	s.checkAll(t, "", "\x00\x01\x02\x03\x04\x05\x06\x07\x08\x09\xff", 4)
	s.checkAll(t, "\x01"+head, "\x00\x01\x02\x08\x09\x40\xff", 5)
	s.checkAll(t, "\x02"+head, "\x00\x01\x02\x03\xff", 4)
	s.checkAll(t, "\x03"+head+"\x00\x00\x00\x00", "\x00\x01\x02\x03\x05\x08\x80\x81", 5)
	s.checkAll(t, "\x03"+head+"\x00\x00\x00\x00\x01\x02\x01\x03\x01", "\x00\x01\x02\x03\x08", 7)
	s.checkAll(t, "\x04"+head, "\x00\x01\x02\x08\x09\xff", 5)
	s.checkAll(t, "\x05"+head+"\x00\x00\x00", "\x00\x01\x02\x03\x07\x08", 6)
	s.enough(t, 30, api.OK, api.ErrShort, api.ErrForm, api.ErrLong, api.ErrTail)
}

// small are bytes that mean something here or there.
const small = "\x00\x01\x02\x03\x04\x05\x06\x07\x08\x09\x40\x41\x80\x81\xff"

// turned answers bytes of which a few were written over, put in, or taken out.
func turned(source *rand.Rand, b []byte) []byte {
	b = bytes.Clone(b)
	for range 1 + source.Intn(2) {
		at := source.Intn(len(b) + 1)
		c := small[source.Intn(len(small))]
		switch {
		case at == len(b) || source.Intn(3) == 0:
			b = slices.Insert(b, at, c)
		case source.Intn(2) == 0:
			b = slices.Delete(b, at, at+1)
		default:
			b[at] = c
		}
	}
	return b
}

func TestGetOfTurnedBytes(t *testing.T) {
	source := rand.New(rand.NewSource(18))
	list := slices.DeleteFunc(formed(), func(m api.Msg) bool { return len(m.Image) > 300 })
	s := seen{}
	for range 100000 {
		s.check(t, turned(source, laid(list[source.Intn(len(list))])))
	}
	s.enough(t, 500, api.OK, api.ErrShort, api.ErrForm, api.ErrLong, api.ErrTail)
}

// TestGetOfTurnedEntries turns an entry's own text, whose length is then said rightly.
func TestGetOfTurnedEntries(t *testing.T) {
	source := rand.New(rand.NewSource(180))
	s := seen{}
	for range 50000 {
		m := headed(api.MsgCopy)
		var texts [][]byte
		for range 1 + source.Intn(4) {
			e := []api.Entry{none(1), put(2, 3, 4, "text"), conf(1, 2, 5), put(1, 0, 0, strings.Repeat("a", 64))}[source.Intn(4)]
			texts = append(texts, laidEntry(e))
		}
		i := source.Intn(len(texts))
		texts[i] = turned(source, texts[i])
		front := laid(m)
		s.check(t, append(front[:len(front)-1], laidBatch(texts...)...))
	}
	s.enough(t, 500, api.OK, api.ErrShort, api.ErrForm, api.ErrLong, api.ErrTail)
}

// P18.3

func TestGetUndoesPut(t *testing.T) {
	for _, m := range formed() {
		b, errno := msg.Put(m)
		if errno != api.OK {
			t.Fatalf("Put(%.300v): %d", m, errno)
		}
		if got, errno := msg.Get(b); errno != api.OK || !one(got, m) || !msg.Same(got, m) {
			t.Errorf("Get(Put(%.300v)): %.300v, %d", m, got, errno)
		}
	}
}

func TestNoTwoHaveTheSameBytes(t *testing.T) {
	known := map[string]api.Msg{}
	for _, m := range formed() {
		b, _ := msg.Put(m)
		if other, is := known[string(b)]; is && !one(other, m) {
			t.Errorf("%.300v and %.300v: %.300x", other, m, b)
		}
		known[string(b)] = m
	}
	if len(known) < 500 {
		t.Errorf("%d messages", len(known))
	}
}
