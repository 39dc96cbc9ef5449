package store_test

import (
	"fmt"
	"math"
	"slices"
	"strings"
	"testing"

	"tabellion/api"
	"tabellion/disk"
	"tabellion/store"
)

const (
	roomy = 1 << 30
	whole = 1 << 30 // more bytes than any write of these tests has
)

// state is what a store has.
type state struct {
	hard       api.Hard
	base, term uint64
	list       []api.Entry
	first      []uint64
	image      string
}

// last answers the index of the last entry.
func (x state) last() uint64 {
	return x.base + uint64(len(x.list))
}

// text answers all of a state.
func (x state) text() string {
	var list []string
	for _, e := range x.list {
		list = append(list, fmt.Sprintf("{%d %d %d %d %q %v}", e.Term, e.Kind, e.Client, e.Seq, e.Data, e.Members))
	}
	image := fmt.Sprintf("%q", x.image)
	return fmt.Sprint(x.hard, " behind ", x.base, " ", x.term, " ", x.first, " ", image, ": ", strings.Join(list, " "))
}

// short answers a text, its middle left out if it is long.
func short(text string) string {
	if len(text) <= 400 {
		return text
	}
	return fmt.Sprintf("%s .. %s (%d)", text[:200], text[len(text)-200:], len(text))
}

// in answers what a store has.
func in(s *store.Store) state {
	l := s.Log()
	return state{s.Hard(), l.Base, l.BaseTerm, l.Entries, s.First(), string(s.Image())}
}

// saved answers what a state is to be behind a Save.
func (x state) saved(h api.Hard, from uint64, list ...api.Entry) state {
	x.hard = h
	x.list = slices.Concat(x.list[:from-x.base-1], list)
	return x
}

// snapped answers what a state is to be behind a Snap.
func (x state) snapped(base, term uint64, first []uint64, image string) state {
	var left []api.Entry
	for i, e := range x.list {
		if x.base+uint64(i)+1 == base && e.Term == term {
			left = x.list[i+1:]
		}
	}
	return state{x.hard, base, term, left, first, image}
}

// put, none and conf answer entries.
func put(term, client, seq uint64, data string) api.Entry {
	return api.Entry{Term: term, Kind: api.KindPut, Client: client, Seq: seq, Data: []byte(data)}
}

func none(term uint64) api.Entry {
	return api.Entry{Term: term, Kind: api.KindNone}
}

func conf(term uint64, ids ...uint64) api.Entry {
	return api.Entry{Term: term, Kind: api.KindConf, Members: ids}
}

// puts answers an entry of a term for each text.
func puts(term uint64, datas ...string) []api.Entry {
	var list []api.Entry
	for i, data := range datas {
		list = append(list, put(term, 7, uint64(i), data))
	}
	return list
}

// many answers so many entries.
func many(n int) []api.Entry {
	list := make([]api.Entry, n)
	for i := range list {
		list[i] = put(uint64(i/100+1), uint64(i), math.MaxUint64, strings.Repeat("m", i%(api.MaxData+1)))
	}
	return list
}

// want fails the test where an answer isn't the one that is asked for.
func want(t *testing.T, what string, got, asked api.Errno) {
	t.Helper()
	if got != asked {
		t.Errorf("%s: %d, not %d", what, got, asked)
	}
}

// done stops the test where an answer isn't OK.
func done(t *testing.T, e api.Errno) {
	t.Helper()
	if e != api.OK {
		t.Fatalf("answered %d", e)
	}
}

// holds fails the test where a store hasn't what it is to have.
func holds(t *testing.T, s *store.Store, x state) {
	t.Helper()
	if got, asked := in(s).text(), x.text(); got != asked {
		t.Errorf("has %s\nnot %s", short(got), short(asked))
	}
}

// opened answers the store of a disk.
func opened(t *testing.T, d *disk.Disk) *store.Store {
	t.Helper()
	s, e := store.Open(d)
	if e != api.OK || s == nil {
		t.Fatalf("Open: %v, %d", s, e)
	}
	return s
}

// crashed answers the store of a disk that has crashed and kept nothing of what waited.
func crashed(t *testing.T, d *disk.Disk) *store.Store {
	t.Helper()
	d.Crash(nil, 0)
	return opened(t, d)
}

// fell takes a disk down.
func fell(t *testing.T, d *disk.Disk) {
	t.Helper()
	d.Fuse(0)
	d.Sync()
	if !d.Down() {
		t.Fatal("the disk is up")
	}
}

// fresh is what a store has that lies on an empty disk.
var fresh = state{}

// three is a state with three entries and nothing ahead of them.
func three() state {
	return state{hard: api.Hard{Term: 3, Vote: 2}, list: []api.Entry{none(1), put(1, 7, 1, "a"), put(2, 7, 2, "b")}}
}

// behind is a state with three entries, and an image of what is ahead of them.
func behind() state {
	x := three()
	x.base, x.term, x.first, x.image = 40, 1, []uint64{1, 2, 3}, "image"
	return x
}

// states that tests begin with.
func states() []state {
	empty := behind()
	empty.list = nil
	voted := fresh
	voted.hard = api.Hard{Term: 9, Vote: 4}
	return []state{fresh, voted, three(), behind(), empty}
}

// begun answers a store on a disk of its own that has this, for sure.
func begun(t *testing.T, x state) (*store.Store, *disk.Disk) {
	t.Helper()
	d := disk.New(roomy)
	s := opened(t, d)
	if x.base > 0 {
		done(t, s.Snap(x.base, x.term, x.first, []byte(x.image)))
	}
	done(t, s.Save(x.hard, x.base+1, x.list))
	holds(t, s, x)
	return s, d
}

// isSure fails the test where a store, or one that is opened on its disk, or behind a crash, hasn't this.
func isSure(t *testing.T, s *store.Store, d *disk.Disk, x state) *store.Store {
	t.Helper()
	holds(t, s, x)
	holds(t, opened(t, d), x)
	again := crashed(t, d)
	holds(t, again, x)
	return again
}

// P13.1: Open, and what a store has

func TestAStoreThatNobodyWrote(t *testing.T) {
	d := disk.New(roomy)
	isSure(t, opened(t, d), d, fresh)
	holds(t, opened(t, disk.New(0)), fresh)
}

func TestOpenOfADiskThatIsDown(t *testing.T) {
	s, e := store.Open(nil)
	if s != nil || e != api.ErrLost {
		t.Errorf("nil: %v, %d", s, e)
	}
	for _, x := range states() {
		_, d := begun(t, x)
		fell(t, d)
		s, e = store.Open(d)
		if s != nil || e != api.ErrLost {
			t.Errorf("down: %v, %d", s, e)
		}
		holds(t, crashed(t, d), x)
	}
}

func TestOpenFindsWhatLiesThere(t *testing.T) {
	for _, x := range states() {
		_, d := begun(t, x)
		for range 3 {
			holds(t, opened(t, d), x)
		}
		s := opened(t, d)
		x = x.saved(api.Hard{Term: 9}, x.base+1, puts(9, "p", "q")...)
		done(t, s.Save(x.hard, x.base+1, x.list))
		holds(t, opened(t, d), x)
		s = opened(t, d)
		x = x.snapped(x.base+1, 9, []uint64{7}, "other")
		done(t, s.Snap(x.base, x.term, x.first, []byte(x.image)))
		isSure(t, s, d, x)
	}
}

func TestOpenThatIsCut(t *testing.T) {
	for _, x := range states() {
		for fuse := 0; ; fuse++ {
			_, d := begun(t, x)
			d.Fuse(fuse)
			s, e := store.Open(d)
			if e == api.OK {
				holds(t, s, x)
				break
			}
			if s != nil || e != api.ErrLost || !d.Down() || fuse > 100 {
				t.Fatalf("fuse %d: %v, %d", fuse, s, e)
			}
			holds(t, crashed(t, d), x)
		}
	}
}

func TestOpenNeedsNoRoom(t *testing.T) {
	for _, x := range states() {
		for fuse := 0; fuse < 30; fuse++ { // what a call was lost at, which leaves something for Open to do
			for _, snap := range []bool{false, true} {
				s, d := begun(t, x)
				d.Fuse(fuse)
				if snap {
					s.Snap(x.base+2, 1, []uint64{1}, []byte("lost"))
				} else {
					s.Save(api.Hard{Term: 8}, x.base+1, puts(8, "lost", "lost"))
				}
				d.Crash(slices.Repeat([]bool{true}, d.Waiting()), whole)
				d.Room(0)
				left := in(opened(t, d))
				s = crashed(t, d)
				holds(t, s, left)
				d.Room(roomy)
				left = left.saved(api.Hard{Term: 9}, left.last()+1, none(9))
				done(t, s.Save(left.hard, left.last(), left.list[len(left.list)-1:]))
				isSure(t, s, d, left)
			}
		}
	}
}

func TestStoresOfTwoDisksAreApart(t *testing.T) {
	one, d := begun(t, three())
	other, also := begun(t, behind())
	fell(t, d)
	want(t, "Save", one.Save(api.Hard{}, 1, nil), api.ErrLost)
	x := behind().saved(api.Hard{Term: 4}, 44, none(4))
	want(t, "Save", other.Save(x.hard, 44, x.list[3:]), api.OK)
	holds(t, one, three())
	isSure(t, other, also, x)
}

// lay puts files onto a disk, for sure.
func lay(t *testing.T, d *disk.Disk, files map[string]string) {
	t.Helper()
	for name, text := range files {
		done(t, d.Write(name, 0, []byte(text)))
	}
	done(t, d.Sync())
}

// copied answers a disk with the same files, all sure.
func copied(t *testing.T, d *disk.Disk) *disk.Disk {
	t.Helper()
	files := make(map[string]string)
	for _, name := range d.List() {
		b, _ := d.Read(name)
		files[name] = string(b)
	}
	same := disk.New(roomy)
	lay(t, same, files)
	return same
}

// tryAll calls all that a store has; it is asked only that each call ends.
func tryAll(d *disk.Disk) {
	for i := range uint64(3) {
		s, e := store.Open(d)
		if e != api.OK {
			return
		}
		x := in(s)
		s.Save(api.Hard{Term: i}, x.base+1, puts(1, "x"))
		s.Save(api.Hard{Term: i}, x.last()+1, puts(1, "x", "y"))
		s.Save(api.Hard{Term: i}, 0, nil)
		s.Snap(x.base+1, 1, []uint64{1}, []byte("image"))
		s.Snap(x.last()+9, 1, []uint64{1}, nil)
		in(s)
	}
}

func TestOpenEndsWhateverOthersWrote(t *testing.T) {
	s, model := begun(t, behind())
	done(t, s.Snap(41, 1, []uint64{2}, []byte("another")))
	for _, name := range model.List() {
		text, _ := model.Read(name)
		for i := range text {
			for _, turn := range []byte{1, 4, 128, 255} {
				d := copied(t, model)
				done(t, d.Write(name, i, []byte{text[i] ^ turn}))
				tryAll(d)
			}
			d := copied(t, model)
			done(t, d.Cut(name, i))
			tryAll(d)
		}
		d := copied(t, model)
		done(t, d.Remove(name))
		tryAll(d)
		for _, other := range model.List() {
			d := copied(t, model)
			done(t, d.Rename(name, other))
			tryAll(d)
			d = copied(t, model)
			done(t, d.Write(other, 0, append([]byte("\x09\x00"), text...)))
			tryAll(d)
			done(t, d.Write(other, 1<<20, []byte("far")))
			tryAll(d)
		}
	}
}

// P13.2: Save

func TestSave(t *testing.T) {
	s, d := begun(t, fresh)
	x := fresh.saved(api.Hard{Term: 1, Vote: 1}, 1, puts(1, "a", "b")...)
	want(t, "Save", s.Save(x.hard, 1, puts(1, "a", "b")), api.OK)
	s = isSure(t, s, d, x)
	x = x.saved(api.Hard{Term: 2}, 2, put(2, 7, 1, "c"))
	want(t, "Save", s.Save(x.hard, 2, []api.Entry{put(2, 7, 1, "c")}), api.OK)
	s = isSure(t, s, d, x)
	if len(x.list) != 2 {
		t.Fatal("the example's entries are a, c")
	}
	x = x.saved(x.hard, 3, none(2), conf(3, 1, 2, 7))
	want(t, "Save", s.Save(x.hard, 3, []api.Entry{none(2), conf(3, 1, 2, 7)}), api.OK)
	isSure(t, s, d, x)
}

func TestSaveFromEachIndex(t *testing.T) {
	for _, x := range states() {
		for from := x.base + 1; from <= x.last()+1; from++ {
			for _, list := range [][]api.Entry{nil, {}, {none(5)}, puts(5, "p", "q"), puts(5, "p", "q", "r", "s", "t")} {
				s, d := begun(t, x)
				asked := x.saved(api.Hard{Term: 5, Vote: 3}, from, list...)
				want(t, "Save", s.Save(asked.hard, from, list), api.OK)
				isSure(t, s, d, asked)
			}
		}
	}
}

func TestSaveOfTheHardStateAlone(t *testing.T) {
	for _, x := range states() {
		s, d := begun(t, x)
		for _, h := range []api.Hard{{}, {Term: 1}, {Vote: 1}, {Term: 9, Vote: 9}, {Term: 8}, {Term: api.MaxTerm, Vote: 7}, {Term: math.MaxUint64, Vote: math.MaxUint64}, {}} {
			x.hard = h
			want(t, "Save", s.Save(h, x.last()+1, nil), api.OK)
			s = isSure(t, s, d, x)
		}
	}
}

func TestSaveOfTheSameAgain(t *testing.T) {
	for _, x := range states() {
		s, d := begun(t, x)
		for range 3 {
			want(t, "Save", s.Save(x.hard, x.base+1, x.list), api.OK)
			want(t, "Save", s.Save(x.hard, x.last()+1, nil), api.OK)
			s = isSure(t, s, d, x)
		}
	}
}

func TestEntriesOfAllKinds(t *testing.T) {
	each := make([]byte, 0, 256)
	for c := range 256 {
		each = append(each, byte(c))
	}
	list := []api.Entry{none(1), none(api.MaxTerm), conf(1, 1), conf(api.MaxTerm, 1, 2, 3, 4, 5, 6, 7), conf(2, 7), conf(300, 2, 4)}
	for _, n := range []uint64{0, 1, 255, 256, 1 << 32, math.MaxUint64} {
		list = append(list, put(1, n, 0, ""), put(2, 0, n, "a"), put(n%api.MaxTerm+1, n, n, strings.Repeat("\x00", api.MaxData)))
	}
	for i := 0; i < 256; i += api.MaxData {
		list = append(list, put(3, 1, 1, string(each[i:i+api.MaxData])))
	}
	for _, x := range []state{fresh, behind()} {
		s, d := begun(t, x)
		asked := x.saved(api.Hard{Term: 1}, x.base+1, list...)
		want(t, "Save", s.Save(asked.hard, x.base+1, list), api.OK)
		s = isSure(t, s, d, asked)
		for range list { // and one by one, from the first on
			e := asked.list[0]
			asked = asked.saved(asked.hard, asked.base+1, append(slices.Clone(asked.list[1:]), e)...)
			want(t, "Save", s.Save(asked.hard, asked.base+1, asked.list), api.OK)
		}
		isSure(t, s, d, asked)
	}
}

func TestSaveOutsideOfTheLog(t *testing.T) {
	for _, x := range states() {
		s, d := begun(t, x)
		for _, from := range []uint64{0, x.base, x.base - 1, x.last() + 2, x.last() + 3, 1 << 32, api.MaxTerm + 1, 1 << 63, math.MaxUint64} {
			if x.base < from && from <= x.last()+1 {
				continue
			}
			for _, list := range [][]api.Entry{nil, puts(4, "d"), {{}}, many(api.MaxRows + 1)} { // ErrRange is named first
				want(t, fmt.Sprintf("Save from %d", from), s.Save(api.Hard{Term: 5}, from, list), api.ErrRange)
			}
		}
		s = isSure(t, s, d, x)
		want(t, "Save", s.Save(x.hard, x.last()+1, nil), api.OK)
	}
}

// unformed answers entries that aren't formed.
func unformed() []api.Entry {
	var list []api.Entry
	for _, change := range []func(*api.Entry){
		func(e *api.Entry) { e.Term = 0 },
		func(e *api.Entry) { e.Term = api.MaxTerm + 1 },
		func(e *api.Entry) { e.Term = math.MaxUint64 },
		func(e *api.Entry) { e.Kind = 0 },
		func(e *api.Entry) { e.Kind = 4 },
		func(e *api.Entry) { e.Kind = -1 },
		func(e *api.Entry) { e.Kind = 256 + api.KindPut },
		func(e *api.Entry) { e.Data = make([]byte, api.MaxData+1) },
		func(e *api.Entry) { e.Members = []uint64{1} },
	} {
		e := put(1, 1, 1, "x")
		change(&e)
		list = append(list, e)
	}
	for _, ids := range [][]uint64{nil, {0}, {8}, {1, 1}, {2, 1}, {1, 2, 3, 4, 5, 6, 7, 8}, {1, 257}} {
		list = append(list, conf(1, ids...))
	}
	for _, e := range []api.Entry{none(1), conf(1, 1)} {
		client, seq, data := e, e, e
		client.Client, seq.Seq, data.Data = 1, 1, []byte("x")
		list = append(list, client, seq, data)
	}
	return list
}

func TestSaveOfAnEntryThatIsNotFormed(t *testing.T) {
	for _, x := range states() {
		s, d := begun(t, x)
		for _, e := range unformed() {
			for _, list := range [][]api.Entry{{e}, {e, none(1)}, {none(1), e}, {none(1), e, none(1)}, append(many(api.MaxRows), e)} {
				want(t, fmt.Sprint("Save of ", e), s.Save(api.Hard{Term: 5}, x.base+1, list), api.ErrArg)
			}
		}
		d.Room(0)
		want(t, "Save", s.Save(api.Hard{Term: 5}, x.base+1, []api.Entry{{}}), api.ErrArg) // named ahead of ErrFull
		d.Room(roomy)
		d.Fuse(0)
		want(t, "Save", s.Save(api.Hard{Term: 5}, x.base+1, []api.Entry{{}}), api.ErrArg) // and of an operation that is lost
		d.Fuse(-1)
		s = isSure(t, s, d, x)
		want(t, "Save", s.Save(x.hard, x.base+1, x.list), api.OK)
		isSure(t, s, d, x)
	}
}

func TestALogThatWouldBeTooLong(t *testing.T) {
	for _, x := range []state{fresh, three(), behind()} {
		s, d := begun(t, x)
		for left := range len(x.list) + 1 {
			from := x.base + uint64(left) + 1
			for _, n := range []int{api.MaxRows + 1 - left, api.MaxRows + 2 - left, 2 * api.MaxRows} {
				want(t, fmt.Sprintf("Save of %d from %d", n, from), s.Save(api.Hard{Term: 5}, from, many(n)), api.ErrLong)
			}
			d.Room(0)
			want(t, "Save", s.Save(api.Hard{Term: 5}, from, many(api.MaxRows+1-left)), api.ErrLong) // named ahead of ErrFull
			d.Room(roomy)
			d.Fuse(0)
			want(t, "Save", s.Save(api.Hard{Term: 5}, from, many(api.MaxRows+1-left)), api.ErrLong)
			d.Fuse(-1)
			s = isSure(t, s, d, x)
		}
	}
}

func TestALogAsLongAsItMayBe(t *testing.T) {
	for _, x := range []state{fresh, behind()} {
		for _, left := range []int{0, 1, len(x.list)} {
			if left > len(x.list) {
				continue
			}
			s, d := begun(t, x)
			from := x.base + uint64(left) + 1
			list := many(api.MaxRows - left)
			x := x.saved(api.Hard{Term: 50}, from, list...)
			want(t, "Save", s.Save(x.hard, from, list), api.OK)
			s = isSure(t, s, d, x)
			want(t, "one more", s.Save(x.hard, x.last()+1, many(1)), api.ErrLong)
			want(t, "two in the place of one", s.Save(x.hard, x.last(), many(2)), api.ErrLong)
			x = x.saved(x.hard, x.last(), none(51))
			want(t, "one in the place of one", s.Save(x.hard, x.last(), []api.Entry{none(51)}), api.OK)
			s = isSure(t, s, d, x)
			base, term := x.base+2, x.list[1].Term
			x = x.snapped(base, term, []uint64{1}, "").saved(x.hard, x.last()+1, many(2)...)
			done(t, s.Snap(base, term, []uint64{1}, nil))
			want(t, "where two are gone", s.Save(x.hard, x.last()-1, many(2)), api.OK)
			want(t, "and one more", s.Save(x.hard, x.last()+1, many(1)), api.ErrLong)
			isSure(t, s, d, x)
		}
	}
}

func TestSaveWithoutRoom(t *testing.T) {
	for _, x := range states() {
		for _, room := range []int{0, 1, 100} {
			s, d := begun(t, x)
			d.Room(room)
			if e := s.Save(api.Hard{Term: 5}, x.base+1, many(50)); e != api.ErrFull {
				t.Fatalf("room %d: %d", room, e)
			}
			isOver(t, s, x)
			d.Room(roomy)
			isOver(t, s, x)
		}
	}
}

// P13.3: Snap

func TestSnap(t *testing.T) {
	for _, x := range states() {
		for base := x.base + 1; base <= x.last()+2; base++ {
			for _, term := range []uint64{0, 1, 2, 3, api.MaxTerm, math.MaxUint64} {
				s, d := begun(t, x)
				asked := x.snapped(base, term, []uint64{1, 4}, "another image")
				want(t, "Snap", s.Snap(base, term, []uint64{1, 4}, []byte("another image")), api.OK)
				s = isSure(t, s, d, asked)
				for _, from := range []uint64{0, base, asked.last() + 2} {
					want(t, fmt.Sprintf("Save from %d", from), s.Save(asked.hard, from, nil), api.ErrRange)
				}
				asked = asked.saved(api.Hard{Term: 6}, asked.last()+1, puts(6, "p", "q")...)
				want(t, "Save", s.Save(asked.hard, asked.last()-1, puts(6, "p", "q")), api.OK)
				s = isSure(t, s, d, asked)
				asked = asked.saved(asked.hard, base+1, puts(7, "r")...)
				want(t, "Save", s.Save(asked.hard, base+1, puts(7, "r")), api.OK)
				isSure(t, s, d, asked)
			}
		}
	}
}

func TestTheExampleOfSnap(t *testing.T) {
	s, d := begun(t, fresh)
	done(t, s.Save(api.Hard{Term: 1, Vote: 1}, 1, puts(1, "a", "b")))
	done(t, s.Save(api.Hard{Term: 2}, 2, puts(2, "c")))
	done(t, s.Snap(2, 2, []uint64{1}, nil))
	s = isSure(t, s, d, state{hard: api.Hard{Term: 2}, base: 2, term: 2, first: []uint64{1}})
	done(t, s.Snap(9, 1, []uint64{1}, nil))
	isSure(t, s, d, state{hard: api.Hard{Term: 2}, base: 9, term: 1, first: []uint64{1}})
}

func TestSnapFarBehindTheLog(t *testing.T) {
	for _, x := range states() {
		for _, base := range []uint64{x.last() + 1, x.last() + 1000, 1 << 32, 1<<53 + 1, api.MaxTerm - 1, api.MaxTerm} {
			s, d := begun(t, x)
			asked := x.snapped(base, 3, []uint64{2}, "far")
			want(t, "Snap", s.Snap(base, 3, []uint64{2}, []byte("far")), api.OK)
			s = isSure(t, s, d, asked)
			asked = asked.saved(api.Hard{Term: 6}, base+1, puts(6, "p", "q", "r")...)
			want(t, "Save", s.Save(asked.hard, base+1, asked.list), api.OK)
			s = isSure(t, s, d, asked)
			if base+2 <= api.MaxTerm {
				asked = asked.snapped(base+2, 6, []uint64{2}, "further")
				want(t, "Snap", s.Snap(base+2, 6, []uint64{2}, []byte("further")), api.OK)
				isSure(t, s, d, asked)
			}
		}
	}
}

func TestSnapOutside(t *testing.T) {
	for _, x := range states() {
		s, d := begun(t, x)
		for _, base := range []uint64{0, 1, x.base, x.base - 1, api.MaxTerm + 1, 1 << 63, math.MaxUint64} {
			if x.base < base && base <= api.MaxTerm {
				continue
			}
			for _, first := range [][]uint64{{1}, nil, {0}} { // ErrRange is named first
				for _, n := range []int{0, api.MaxImage + 1} {
					want(t, fmt.Sprintf("Snap to %d", base), s.Snap(base, 1, first, make([]byte, n)), api.ErrRange)
				}
			}
		}
		isSure(t, s, d, x)
	}
}

func TestSnapWithMembersThatAreNotFormed(t *testing.T) {
	for _, x := range states() {
		s, d := begun(t, x)
		for _, first := range [][]uint64{nil, {}, {0}, {8}, {1, 1}, {2, 1}, {1, 2, 3, 4, 5, 6, 7, 8}, {0, 1}, {7, 8}, {257}, {math.MaxUint64}} {
			for _, n := range []int{0, api.MaxImage + 1} { // ErrArg is named ahead of ErrLong
				want(t, fmt.Sprint("Snap of ", first), s.Snap(x.base+2, 1, first, make([]byte, n)), api.ErrArg)
			}
		}
		isSure(t, s, d, x)
	}
}

func TestMembersOfASnap(t *testing.T) {
	s, d := begun(t, fresh)
	x := fresh
	for bits := 1; bits < 1<<api.MaxNodes; bits++ {
		var first []uint64
		for id := range uint64(api.MaxNodes) {
			if bits>>id&1 == 1 {
				first = append(first, id+1)
			}
		}
		x = x.snapped(x.base+1, 1, first, "")
		want(t, fmt.Sprint("Snap of ", first), s.Snap(x.base, 1, first, nil), api.OK)
		s = isSure(t, s, d, x)
	}
}

func TestImages(t *testing.T) {
	for _, x := range states() {
		s, d := begun(t, x)
		for _, n := range []int{0, 1, 255, 256, 1000, api.MaxImage - 1, api.MaxImage, 0, 3} {
			for _, part := range []string{"\x00", "\xff", "abc"} {
				image := strings.Repeat(part, n)[:n]
				x = x.snapped(x.base+1, 1, []uint64{3}, image)
				want(t, "Snap", s.Snap(x.base, 1, []uint64{3}, []byte(image)), api.OK)
				s = isSure(t, s, d, x)
			}
		}
	}
}

func TestAnImageThatIsTooLong(t *testing.T) {
	for _, x := range states() {
		s, d := begun(t, x)
		for _, n := range []int{api.MaxImage + 1, api.MaxImage + 2, 2 * api.MaxImage, 3 * api.MaxImage} {
			want(t, fmt.Sprintf("%d bytes", n), s.Snap(x.base+2, 1, []uint64{1}, make([]byte, n)), api.ErrLong)
		}
		d.Room(0)
		want(t, "Snap", s.Snap(x.base+2, 1, []uint64{1}, make([]byte, api.MaxImage+1)), api.ErrLong) // named ahead of ErrFull
		d.Room(roomy)
		d.Fuse(0)
		want(t, "Snap", s.Snap(x.base+2, 1, []uint64{1}, make([]byte, api.MaxImage+1)), api.ErrLong)
		d.Fuse(-1)
		isSure(t, s, d, x)
	}
}

func TestSnapWithoutRoom(t *testing.T) {
	for _, x := range states() {
		for _, room := range []int{0, 1, 500} {
			s, d := begun(t, x)
			d.Room(room)
			if e := s.Snap(x.base+2, 1, []uint64{1}, make([]byte, 1000)); e != api.ErrFull {
				t.Fatalf("room %d: %d", room, e)
			}
			isOver(t, s, x)
			d.Room(roomy)
			isOver(t, s, x)
		}
	}
}

func TestWhatIsGoneTakesNoRoom(t *testing.T) {
	d := disk.New(1 << 15)
	s, x := opened(t, d), fresh
	for i := range uint64(1000) {
		list := many(30)
		from := x.last() + 1 - i%2*uint64(len(x.list))
		x = x.saved(api.Hard{Term: i, Vote: i % 8}, from, list...)
		done(t, s.Save(x.hard, from, list))
		base, image := x.last()-i%3, strings.Repeat("i", int(i))
		x = x.snapped(base, list[0].Term, []uint64{1}, image)
		done(t, s.Snap(base, list[0].Term, x.first, []byte(image)))
	}
	isSure(t, s, d, x)
}

func TestWhatWasLostTakesNoRoom(t *testing.T) {
	for fuse := 0; fuse < 80; fuse += 1 + fuse/8 {
		d := disk.New(1 << 15)
		s := opened(t, d)
		for i := range uint64(30) {
			x := in(s)
			done(t, s.Save(api.Hard{Term: i}, x.base+1, many(60)))
			d.Fuse(fuse)
			e := api.OK
			if i%2 == 0 {
				e = s.Snap(x.base+60, 1, []uint64{2}, make([]byte, 3000))
			} else {
				e = s.Save(api.Hard{Term: i}, x.base+1, many(40))
			}
			if e != api.OK && e != api.ErrLost {
				t.Fatalf("fuse %d, round %d: %d", fuse, i, e)
			}
			d.Crash(slices.Repeat([]bool{true}, d.Waiting()), whole)
			s = opened(t, d)
		}
	}
}

// P13.4: a store that is over

// isOver fails the test where a store takes something still, or has something else than ahead of being over.
func isOver(t *testing.T, s *store.Store, x state) {
	t.Helper()
	holds(t, s, x)
	for _, from := range []uint64{0, x.base + 1, x.last() + 1, x.last() + 2} {
		for _, list := range [][]api.Entry{nil, puts(1, "x"), {{}}, make([]api.Entry, api.MaxRows+1)} {
			want(t, "Save", s.Save(x.hard, from, list), api.ErrLost)
		}
	}
	for _, base := range []uint64{0, x.base + 1, x.last() + 3, math.MaxUint64} {
		for _, first := range [][]uint64{{1}, nil} {
			for _, n := range []int{0, api.MaxImage + 1} {
				want(t, "Snap", s.Snap(base, 1, first, make([]byte, n)), api.ErrLost)
			}
		}
	}
	holds(t, s, x)
}

// files answers what lies on a disk, and how much of it waits.
func files(d *disk.Disk) string {
	list := []string{fmt.Sprint(d.Waiting(), d.Down())}
	for _, name := range d.List() {
		b, e := d.Read(name)
		list = append(list, fmt.Sprintf("%q %q %d", name, b, e))
	}
	return strings.Join(list, "\n")
}

// calls that are cut, each of a state; they answer what the state is to be where they aren't.
func calls() map[string]func(*store.Store, state) (state, api.Errno) {
	h, first := api.Hard{Term: 8, Vote: 3}, []uint64{2, 3}
	return map[string]func(*store.Store, state) (state, api.Errno){
		"hard state": func(s *store.Store, x state) (state, api.Errno) {
			return x.saved(h, x.last()+1), s.Save(h, x.last()+1, nil)
		},
		"entries": func(s *store.Store, x state) (state, api.Errno) {
			return x.saved(h, x.last()+1, puts(8, "p", "q", "r")...), s.Save(h, x.last()+1, puts(8, "p", "q", "r"))
		},
		"other entries": func(s *store.Store, x state) (state, api.Errno) {
			return x.saved(h, x.base+1, puts(8, "p", "q")...), s.Save(h, x.base+1, puts(8, "p", "q"))
		},
		"no entries": func(s *store.Store, x state) (state, api.Errno) {
			return x.saved(h, x.base+1), s.Save(h, x.base+1, nil)
		},
		"image within": func(s *store.Store, x state) (state, api.Errno) {
			return x.snapped(x.base+2, 1, first, "new"), s.Snap(x.base+2, 1, first, []byte("new"))
		},
		"image beyond": func(s *store.Store, x state) (state, api.Errno) {
			return x.snapped(x.last()+9, 1, first, "new"), s.Snap(x.last()+9, 1, first, []byte("new"))
		},
	}
}

func TestAStoreIsOverBehindErrLost(t *testing.T) {
	for name, call := range calls() {
		for _, x := range states() {
			for fuse := 0; ; fuse++ {
				s, d := begun(t, x)
				d.Fuse(fuse)
				next, e := call(s, x)
				if e == api.OK && fuse > 0 {
					holds(t, s, next)
					break
				}
				if e != api.ErrLost || fuse > 100 {
					t.Fatalf("%s, fuse %d: %d", name, fuse, e)
				}
				isOver(t, s, x)
				d.Crash(nil, 0)
				before := files(d)
				isOver(t, s, x)
				if now := files(d); now != before {
					t.Errorf("%s, fuse %d: a store that is over changed the disk: %s", name, fuse, now)
				}
				again := opened(t, d)
				x := in(again)
				next, e = call(again, x)
				done(t, e)
				isSure(t, again, d, next)
			}
		}
	}
}

func TestADiskThatIsDownEndsAStore(t *testing.T) {
	for name, call := range calls() {
		for _, x := range states() {
			s, d := begun(t, x)
			fell(t, d)
			holds(t, s, x)
			_, e := call(s, x)
			want(t, name, e, api.ErrLost)
			isOver(t, s, x)
			d.Crash(slices.Repeat([]bool{true}, d.Waiting()), whole)
			isOver(t, s, x)
			holds(t, opened(t, d), x)
		}
	}
}

func TestWhatIsRefusedDoesNotEndAStore(t *testing.T) {
	for _, x := range states() {
		s, d := begun(t, x)
		before := files(d)
		for range 2 {
			want(t, "Save", s.Save(api.Hard{Term: 5}, x.base, puts(1, "x")), api.ErrRange)
			want(t, "Save", s.Save(api.Hard{Term: 5}, x.base+1, []api.Entry{none(1), {}}), api.ErrArg)
			want(t, "Save", s.Save(api.Hard{Term: 5}, x.base+1, many(api.MaxRows+1)), api.ErrLong)
			want(t, "Snap", s.Snap(x.base, 1, []uint64{1}, nil), api.ErrRange)
			want(t, "Snap", s.Snap(x.base+1, 1, []uint64{0}, nil), api.ErrArg)
			want(t, "Snap", s.Snap(x.base+1, 1, []uint64{1}, make([]byte, api.MaxImage+1)), api.ErrLong)
			holds(t, s, x)
		}
		if now := files(d); now != before {
			t.Errorf("the disk was changed: %s", now)
		}
		x = x.saved(api.Hard{Term: 5}, x.last()+1, none(5))
		want(t, "Save", s.Save(x.hard, x.last(), []api.Entry{none(5)}), api.OK)
		isSure(t, s, d, x)
	}
}

// P13.6: a nil store

func TestNilStore(t *testing.T) {
	var s *store.Store
	for range 2 {
		isOver(t, s, fresh)
	}
}

// What is handed in, and what is answered

// scribble changes all that a list of entries has, its spare room too.
func scribble(list []api.Entry) {
	list = list[:cap(list)]
	for i, e := range list {
		data, ids := e.Data[:cap(e.Data)], e.Members[:cap(e.Members)]
		for j := range data {
			data[j] = '!'
		}
		for j := range ids {
			ids[j] = 77
		}
		list[i].Term, list[i].Kind = 77, 77
	}
}

func TestWhatIsHandedInIsNotChangedAndNotKept(t *testing.T) {
	for _, x := range []state{fresh, behind()} {
		s, d := begun(t, x)
		spare := []api.Entry{put(4, 1, 1, "spare"), conf(4, 5, 6, 7), none(4)}
		list := spare[:2]
		list[0].Data = list[0].Data[:2]
		list[1].Members = list[1].Members[:2]
		x = x.saved(api.Hard{Term: 4}, x.base+1, put(4, 1, 1, "sp"), conf(4, 5, 6))
		done(t, s.Save(x.hard, x.base+1, list))
		if string(spare[0].Data[:5]) != "spare" || spare[1].Members[:3][2] != 7 || spare[2].Term != 4 {
			t.Error("Save changed what was handed in")
		}
		scribble(spare)
		s = isSure(t, s, d, x)
		ids, image := []uint64{1, 2, 3}, []byte("an image")
		x = x.snapped(x.base+1, 4, []uint64{1, 2}, "an")
		done(t, s.Snap(x.base, 4, ids[:2], image[:2]))
		if !slices.Equal(ids, []uint64{1, 2, 3}) || string(image) != "an image" {
			t.Error("Snap changed what was handed in")
		}
		ids[0], ids[1], image[0], image[1] = 9, 9, '!', '!'
		isSure(t, s, d, x)
	}
}

func TestAnAnswerIsNewMemory(t *testing.T) {
	x := behind().saved(api.Hard{Term: 3}, 42, put(3, 1, 1, "data"), conf(3, 1, 2), none(3))
	one, d := begun(t, x)
	for _, s := range []*store.Store{one, opened(t, d)} {
		kept := in(s)
		scribble(s.Log().Entries)
		first, image := s.First(), s.Image()
		first, image = first[:cap(first)], image[:cap(image)]
		for i := range first {
			first[i] = 77
		}
		for i := range image {
			image[i] = '!'
		}
		holds(t, s, x)
		if kept.text() != x.text() {
			t.Errorf("two answers share memory: %s", kept.text())
		}
		holds(t, opened(t, d), x)
	}
	isSure(t, one, d, x)
}

func TestTheListsOfOneAnswerAreApart(t *testing.T) {
	x := three().saved(api.Hard{}, 1, put(3, 1, 1, "data"), put(3, 1, 2, "data"), conf(3, 1, 2), conf(3, 1, 2))
	s, d := begun(t, x)
	for _, s := range []*store.Store{s, opened(t, d)} {
		for i := range x.list {
			list := s.Log().Entries
			scribble(list[i : i+1 : i+1])
			others, asked := state{list: slices.Delete(list, i, i+1)}, state{list: slices.Delete(slices.Clone(x.list), i, i+1)}
			if others.text() != asked.text() {
				t.Errorf("entry %d shares memory with another: %s", i, others.text())
			}
		}
	}
}

func TestAnAnswerStaysAsItIs(t *testing.T) {
	s, d := begun(t, behind())
	kept := in(s)
	done(t, s.Save(api.Hard{Term: 9}, 41, puts(9, "other", "ones", "here", "now")))
	done(t, s.Snap(42, 9, []uint64{7}, []byte("other")))
	if kept.text() != behind().text() {
		t.Errorf("an answer was changed later: %s", kept.text())
	}
	d.Crash(nil, 0)
	if kept.text() != behind().text() {
		t.Errorf("an answer was changed later: %s", kept.text())
	}
}
