package wal_test

import (
	"fmt"
	"slices"
	"strings"
	"testing"

	"tabellion/api"
	"tabellion/disk"
	"tabellion/wal"
)

const (
	roomy   = 1 << 30
	whole   = 1 << 30 // more bytes than any write of these tests has
	longest = api.MaxRecord / 2
)

// want fails the test where an answer isn't the one that is asked for.
func want(t *testing.T, what string, got, asked api.Errno) {
	t.Helper()
	if got != asked {
		t.Errorf("%s: %d, not %d", what, got, asked)
	}
}

// done stops the test where an answer isn't OK.
func done(t *testing.T, e api.Errno) {
	t.Helper()
	if e != api.OK {
		t.Fatalf("answered %d", e)
	}
}

// opened answers the log of a disk.
func opened(t *testing.T, d *disk.Disk) *wal.Log {
	t.Helper()
	l, e := wal.Open(d, "log")
	if e != api.OK || l == nil {
		t.Fatalf("Open: %v, %d", l, e)
	}
	return l
}

// crashed answers the log of a disk that has crashed and kept nothing of what waited.
func crashed(t *testing.T, d *disk.Disk) *wal.Log {
	t.Helper()
	d.Crash(nil, 0)
	return opened(t, d)
}

// put appends records, and stops the test where one is refused.
func put(t *testing.T, l *wal.Log, recs ...string) {
	t.Helper()
	for i, rec := range recs {
		if e := l.Append([]byte(rec)); e != api.OK {
			t.Fatalf("Append %d (%d bytes): %d", i, len(rec), e)
		}
	}
}

// filled answers a log on a disk of its own, with records that are sure.
func filled(t *testing.T, recs ...string) (*wal.Log, *disk.Disk) {
	t.Helper()
	d := disk.New(roomy)
	l := opened(t, d)
	put(t, l, recs...)
	done(t, l.Sync())
	return l, d
}

// short answers a text, its middle left out if it is long.
func short(text string) string {
	if len(text) <= 40 {
		return fmt.Sprintf("%q", text)
	}
	return fmt.Sprintf("%q..%q (%d)", text[:16], text[len(text)-16:], len(text))
}

// holds fails the test where a log isn't these records from a number on, and no others.
func holds(t *testing.T, l *wal.Log, first uint64, recs ...string) {
	t.Helper()
	next := first + uint64(len(recs))
	if l.First() != first || l.Next() != next {
		t.Errorf("from %d to below %d, not from %d to below %d", l.First(), l.Next(), first, next)
		return
	}
	for i, rec := range recs {
		if b, e := l.Get(first + uint64(i)); string(b) != rec || e != api.OK {
			t.Errorf("Get(%d): %s, %d, not %s", first+uint64(i), short(string(b)), e, short(rec))
		}
	}
	for _, n := range []uint64{first - 1, next, next + 1, 1 << 32, 1 << 63, 1<<64 - 1} {
		if b, e := l.Get(n); len(b) != 0 || e != api.ErrRange {
			t.Errorf("Get(%d): %q, %d", n, b, e)
		}
	}
}

// begins fails the test where a log isn't these records from a number on, as far as they go; so many must be there.
func begins(t *testing.T, l *wal.Log, sure int, first uint64, recs ...string) {
	t.Helper()
	n := int(l.Next() - l.First())
	if n < sure || n > len(recs) {
		t.Errorf("%d records, not %d to %d", n, sure, len(recs))
		return
	}
	holds(t, l, first, recs[:n]...)
}

// P9.1: Open

func TestALogThatNobodyWrote(t *testing.T) {
	d := disk.New(roomy)
	holds(t, opened(t, d), 0)
	holds(t, crashed(t, d), 0)
	holds(t, opened(t, disk.New(0)), 0)
}

func TestLogNames(t *testing.T) {
	for _, name := range []string{"a", "z", "az", "log", "zzzz", "abcd"} {
		d := disk.New(roomy)
		l, e := wal.Open(d, name)
		if l == nil || e != api.OK {
			t.Fatalf("%q: %d", name, e)
		}
		put(t, l, "x", "y", "z")
		done(t, l.Trim(1))
		done(t, l.Cut(2))
		d.Crash(nil, 0)
		l, e = wal.Open(d, name)
		want(t, name, e, api.OK)
		holds(t, l, 1, "y")
	}
	down := disk.New(roomy)
	down.Fuse(0)
	down.Sync()
	wrong := []string{"", "abcde", "A", "aB", "a1", "0", ".", "a.", ".a", "a.b", " ", "a ", "`", "{", "@", "a-b", "\x00", "\xff", "é", "a\n", strings.Repeat("a", 1000)}
	for _, name := range wrong {
		for _, d := range []*disk.Disk{disk.New(roomy), disk.New(0), down, nil} {
			l, e := wal.Open(d, name)
			if l != nil || e != api.ErrArg {
				t.Errorf("%q: %v, %d", name, l, e)
			}
			if d.Waiting() > 0 || len(d.List()) > 0 {
				t.Errorf("%q: something was done", name)
			}
		}
	}
}

func TestNoByteOfALogsNameButTheNamed(t *testing.T) {
	for c := range 256 {
		for _, name := range []string{string([]byte{byte(c)}), string([]byte{'a', byte(c)}), string([]byte{byte(c), 'a'})} {
			asked := api.ErrArg
			if 'a' <= c && c <= 'z' {
				asked = api.OK
			}
			_, e := wal.Open(disk.New(roomy), name)
			want(t, fmt.Sprintf("%q", name), e, asked)
		}
	}
}

func TestOpenOfADiskThatIsDown(t *testing.T) {
	l, e := wal.Open(nil, "log")
	if l != nil || e != api.ErrLost {
		t.Errorf("nil: %v, %d", l, e)
	}
	_, d := filled(t, "a", "b")
	d.Fuse(0)
	d.Sync()
	l, e = wal.Open(d, "log")
	if l != nil || e != api.ErrLost {
		t.Errorf("down: %v, %d", l, e)
	}
	holds(t, crashed(t, d), 0, "a", "b")
}

func TestOpenThatIsCut(t *testing.T) {
	l, d := filled(t, "a")
	put(t, l, "b")
	d.Fuse(0)
	l, e := wal.Open(d, "log") // it can't make "b" sure without an operation
	if l != nil || e != api.ErrLost {
		t.Errorf("fuse 0: %v, %d", l, e)
	}
	for fuse := 0; ; fuse++ {
		l, d := filled(t, "a", "b", "c")
		put(t, l, "d", "e", "f")
		n := d.Waiting()
		d.Crash(slices.Repeat([]bool{true}, n), 1)
		d.Fuse(fuse)
		l, e := wal.Open(d, "log")
		if e == api.OK {
			break
		}
		if l != nil || e != api.ErrLost || fuse > 100 {
			t.Fatalf("fuse %d: %v, %d", fuse, l, e)
		}
		begins(t, crashed(t, d), 3, 0, "a", "b", "c", "d", "e", "f")
	}
}

func TestOpenFindsWhatLiesThere(t *testing.T) {
	l, d := filled(t, "a", "", "ccc")
	put(t, l, "d")
	holds(t, opened(t, d), 0, "a", "", "ccc", "d")
	done(t, l.Trim(1))
	holds(t, opened(t, d), 1, "", "ccc", "d")
	done(t, l.Cut(3))
	holds(t, opened(t, d), 1, "", "ccc")
	done(t, l.Trim(3))
	holds(t, opened(t, d), 3)
}

func TestWhatOpenAnswersIsSure(t *testing.T) {
	d := disk.New(roomy)
	put(t, opened(t, d), "a", "b")
	holds(t, opened(t, d), 0, "a", "b")
	holds(t, crashed(t, d), 0, "a", "b")
	l := opened(t, d)
	put(t, l, "c")
	d.Crash(slices.Repeat([]bool{true}, d.Waiting()), whole)
	holds(t, opened(t, d), 0, "a", "b", "c")
	holds(t, crashed(t, d), 0, "a", "b", "c")
}

func TestOpenNeedsNoRoom(t *testing.T) {
	l, d := filled(t, "a", "b", "c")
	done(t, l.Trim(1))
	put(t, l, "d")
	d.Crash(slices.Repeat([]bool{true}, d.Waiting()), 1)
	d.Room(0)
	l = opened(t, d)
	begins(t, l, 2, 1, "b", "c", "d")
	want(t, "Sync", l.Sync(), api.OK)
}

func TestLogsOfOneDiskAreApart(t *testing.T) {
	d := disk.New(roomy)
	names := []string{"a", "b", "ab", "aa", "aaaa"}
	logs := make(map[string]*wal.Log)
	for _, name := range names {
		l, e := wal.Open(d, name)
		done(t, e)
		logs[name] = l
		put(t, l, name+"0", name+"1", name+"2", name+"3")
		done(t, l.Sync())
	}
	done(t, logs["a"].Cut(0))
	done(t, logs["b"].Trim(4))
	done(t, logs["ab"].Trim(1))
	done(t, logs["ab"].Cut(3))
	put(t, logs["a"], "x")
	done(t, logs["a"].Sync())
	d.Crash(nil, 0)
	asked := map[string][]string{"a": {"x"}, "b": nil, "ab": {"ab1", "ab2"}, "aa": {"aa0", "aa1", "aa2", "aa3"}, "aaaa": {"aaaa0", "aaaa1", "aaaa2", "aaaa3"}}
	firsts := map[string]uint64{"b": 4, "ab": 1}
	for _, name := range names {
		l, e := wal.Open(d, name)
		want(t, name, e, api.OK)
		holds(t, l, firsts[name], asked[name]...)
	}
}

// lay puts each of the others' files onto a disk, for sure.
func lay(t *testing.T, d *disk.Disk, files map[string]string) {
	t.Helper()
	for name, text := range files {
		done(t, d.Write(name, 0, []byte(text)))
	}
	done(t, d.Sync())
}

func TestOtherFilesAreLeftAsTheyAre(t *testing.T) {
	others := map[string]string{
		"log": "a", "lo": "b", "lo.0": "c", "logs.0": "d", "xlog.0": "e", ".log": "f", "0": "g", ".": "h", "log0": "i", "l.og.": "j", "logx": "", "og.0": "k",
	}
	d := disk.New(roomy)
	lay(t, d, others)
	l := opened(t, d)
	holds(t, l, 0)
	put(t, l, "a", "b", "c", "d")
	done(t, l.Sync())
	done(t, l.Cut(3))
	done(t, l.Trim(1))
	put(t, l, "e", "f")
	d.Crash(slices.Repeat([]bool{true}, d.Waiting()), 1)
	l = opened(t, d)
	done(t, l.Cut(l.First()))
	l = crashed(t, d)
	put(t, l, "g")
	done(t, l.Sync())
	holds(t, l, 1, "g")
	for name, text := range others {
		b, e := d.Read(name)
		if string(b) != text || e != api.OK {
			t.Errorf("%q: %q, %d", name, b, e)
		}
	}
	for _, name := range d.List() {
		if _, other := others[name]; !other && !strings.HasPrefix(name, "log.") {
			t.Errorf("%q was made", name)
		}
	}
}

// tryAll calls all that a log has; it is asked only that each call ends.
func tryAll(d *disk.Disk) {
	for range 2 {
		l, e := wal.Open(d, "log")
		if e != api.OK {
			return
		}
		for _, n := range []uint64{l.First(), l.Next() - 1, l.Next(), 0, 1<<64 - 1} {
			l.Get(n)
		}
		l.Append([]byte("x"))
		l.Trim(l.First() + 1)
		l.Append([]byte("y"))
		l.Cut(l.Next() - 1)
		l.Append(nil)
		l.Sync()
		l.Trim(l.Next())
		l.Append([]byte("z"))
	}
}

// copied answers a disk with the same files, all sure.
func copied(t *testing.T, d *disk.Disk) *disk.Disk {
	t.Helper()
	files := make(map[string]string)
	for _, name := range d.List() {
		b, _ := d.Read(name)
		files[name] = string(b)
	}
	same := disk.New(roomy)
	lay(t, same, files)
	return same
}

func TestOpenEndsWhateverOthersWrote(t *testing.T) {
	l, model := filled(t, "a", "bb", "", "cccc", "dd")
	done(t, l.Trim(1))
	done(t, l.Sync())
	put(t, l, "e")
	done(t, l.Sync())
	for _, name := range model.List() {
		text, _ := model.Read(name)
		for i := range text {
			for _, turn := range []byte{1, 128, 255} {
				d := copied(t, model)
				done(t, d.Write(name, i, []byte{text[i] ^ turn}))
				tryAll(d)
			}
			d := copied(t, model)
			done(t, d.Cut(name, i))
			tryAll(d)
		}
		d := copied(t, model)
		done(t, d.Write(name, len(text), []byte("more")))
		tryAll(d)
		d = copied(t, model)
		done(t, d.Remove(name))
		tryAll(d)
		for _, other := range append(model.List(), "log.", "log.new", "log.99999999999", "log.f9999999999", "log.zzzzzzzzzzzz") {
			d := copied(t, model)
			done(t, d.Rename(name, other))
			tryAll(d)
			d = copied(t, model)
			done(t, d.Write(other, 0, text))
			tryAll(d)
		}
	}
	names := []string{"log.", "log..", "log.0", "log.00", "log.1", "log.f", "log.f0", "log.f1", "log.f01", "log.f7", "log.x", "log.-1", "log.184467440737", "log.ffffffffffff"}
	for i := range 1 << len(names) {
		if i%97 > 1 {
			continue
		}
		d := disk.New(roomy)
		for j, name := range names {
			if i>>j&1 == 1 {
				d.Write(name, 0, []byte(strings.Repeat("\x00\xff", j)))
			}
		}
		tryAll(d)
	}
}

// P9.2: First, Next, Get, Append, Sync, Cut, Trim

func TestAppend(t *testing.T) {
	l := opened(t, disk.New(roomy))
	var all []string
	for i := range 40 {
		rec := strings.Repeat(string(rune('a'+i%26)), i%7)
		put(t, l, rec)
		all = append(all, rec)
		holds(t, l, 0, all...)
	}
}

func TestARecordIsAnyBytes(t *testing.T) {
	var all []string
	for c := range 256 {
		all = append(all, string([]byte{byte(c)}))
	}
	all = append(all, "", "\x00\x00\x00\x00\x00\x00", strings.Repeat("\x00", 300), strings.Repeat("\xff", 300), "\x00\x52\x7d\x53\x51", "\x01\x01a")
	l, d := filled(t, all...)
	holds(t, l, 0, all...)
	holds(t, crashed(t, d), 0, all...)
}

func TestLengthsOfARecord(t *testing.T) {
	l, d := filled(t)
	var all []string
	for _, n := range []int{0, 1, 254, 255, 256, 257, 4095, 4096, longest - 1, longest} {
		rec := strings.Repeat("r", n)
		put(t, l, rec)
		all = append(all, rec)
	}
	for _, n := range []int{longest + 1, longest + 2, 2 * longest, 2*longest + 1, 1 << 20} {
		want(t, "Append", l.Append(make([]byte, n)), api.ErrLong)
	}
	holds(t, l, 0, all...)
	put(t, l, "behind")
	all = append(all, "behind")
	done(t, l.Sync())
	holds(t, crashed(t, d), 0, all...)
}

func TestTooLongIsSaidAheadOfNoRoom(t *testing.T) {
	d := disk.New(0)
	l := opened(t, d)
	want(t, "too long", l.Append(make([]byte, longest+1)), api.ErrLong)
	want(t, "no room", l.Append(make([]byte, longest)), api.ErrFull)
	holds(t, l, 0)
}

func TestAppendWithoutRoom(t *testing.T) {
	d := disk.New(0)
	l := opened(t, d)
	for range 3 {
		want(t, "Append", l.Append([]byte("x")), api.ErrFull)
		holds(t, l, 0)
	}
	d.Room(roomy)
	put(t, l, "a", "b")
	done(t, l.Sync())
	d.Room(d.Used())
	want(t, "Append", l.Append([]byte("x")), api.ErrFull)
	d.Room(0)
	want(t, "Append", l.Append([]byte("x")), api.ErrFull)
	want(t, "Sync", l.Sync(), api.OK)
	holds(t, l, 0, "a", "b")
	d.Room(roomy)
	put(t, l, "c")
	done(t, l.Sync())
	holds(t, crashed(t, d), 0, "a", "b", "c")
}

func TestARoomTakesNoMoreThanItsBytes(t *testing.T) {
	d := disk.New(500)
	l := opened(t, d)
	rec := strings.Repeat("r", 50)
	var all []string
	for l.Append([]byte(rec)) == api.OK {
		all = append(all, rec)
		if len(all) > 10 {
			t.Fatal("more than there is room for")
		}
	}
	want(t, "full", l.Append([]byte(rec)), api.ErrFull)
	holds(t, l, 0, all...)
	done(t, l.Sync())
	holds(t, crashed(t, d), 0, all...)
}

func TestSync(t *testing.T) {
	l, d := filled(t, "a")
	holds(t, crashed(t, d), 0, "a")
	l = opened(t, d)
	put(t, l, "b")
	begins(t, crashed(t, d), 1, 0, "a", "b")
	l, d = filled(t, "a")
	put(t, l, "b", "c")
	want(t, "Sync", l.Sync(), api.OK)
	want(t, "Sync again", l.Sync(), api.OK)
	holds(t, l, 0, "a", "b", "c")
	holds(t, crashed(t, d), 0, "a", "b", "c")
}

func TestCut(t *testing.T) {
	for n := range uint64(5) {
		l, d := filled(t, "a", "b", "c", "d")
		want(t, "Cut", l.Cut(n), api.OK)
		left := []string{"a", "b", "c", "d"}[:n]
		holds(t, l, 0, left...)
		put(t, l, "e", "f")
		left = append(slices.Clone(left), "e", "f")
		holds(t, l, 0, left...)
		done(t, l.Sync())
		holds(t, crashed(t, d), 0, left...)
	}
}

func TestCutIsSure(t *testing.T) {
	for n := range uint64(5) {
		l, d := filled(t, "a", "b")
		put(t, l, "c", "d")
		done(t, l.Cut(n))
		left := []string{"a", "b", "c", "d"}[:n]
		holds(t, crashed(t, d), 0, left...)
		l = opened(t, d)
		put(t, l, "e", "f")
		begins(t, crashed(t, d), len(left), 0, append(slices.Clone(left), "e", "f")...)
	}
}

func TestCutOutside(t *testing.T) {
	l, d := filled(t, "a", "b", "c", "d")
	done(t, l.Trim(2))
	for _, n := range []uint64{0, 1, 5, 6, 1 << 32, 1 << 63, 1<<64 - 1} {
		want(t, "Cut", l.Cut(n), api.ErrRange)
		want(t, "Trim", l.Trim(n), api.ErrRange)
	}
	holds(t, l, 2, "c", "d")
	want(t, "Cut at the end", l.Cut(4), api.OK)
	holds(t, l, 2, "c", "d")
	want(t, "Cut", l.Cut(3), api.OK)
	want(t, "Cut behind the new end", l.Cut(4), api.ErrRange)
	want(t, "Cut at the beginning", l.Cut(2), api.OK)
	want(t, "Cut of none", l.Cut(2), api.OK)
	holds(t, l, 2)
	put(t, l, "e")
	done(t, l.Sync())
	holds(t, crashed(t, d), 2, "e")
}

func TestCutNeedsNoRoom(t *testing.T) {
	l, d := filled(t, "a", "b", "c", "d", "e")
	done(t, l.Trim(1))
	d.Room(0)
	want(t, "Cut", l.Cut(4), api.OK)
	holds(t, l, 1, "b", "c", "d")
	holds(t, crashed(t, d), 1, "b", "c", "d")
	l = opened(t, d)
	want(t, "Cut", l.Cut(1), api.OK)
	holds(t, crashed(t, d), 1)
}

func TestTrim(t *testing.T) {
	all := []string{"a", "b", "c", "d"}
	for n := range uint64(5) {
		l, d := filled(t, all...)
		want(t, "Trim", l.Trim(n), api.OK)
		left := all[n:]
		holds(t, l, n, left...)
		put(t, l, "e", "f")
		left = append(slices.Clone(left), "e", "f")
		holds(t, l, n, left...)
		done(t, l.Sync())
		holds(t, crashed(t, d), n, left...)
	}
}

func TestTrimIsSure(t *testing.T) {
	all := []string{"a", "b", "c", "d"}
	for n := range uint64(5) {
		l, d := filled(t, "a", "b")
		put(t, l, "c", "d")
		done(t, l.Trim(n))
		holds(t, crashed(t, d), n, all[n:]...)
		l = opened(t, d)
		put(t, l, "e", "f")
		begins(t, crashed(t, d), len(all[n:]), n, append(slices.Clone(all[n:]), "e", "f")...)
	}
}

func TestTrimAgainAndAgain(t *testing.T) {
	l, d := filled(t)
	var left []string
	first := uint64(0)
	for i := range 200 {
		rec := fmt.Sprint("record ", i)
		put(t, l, rec)
		left = append(left, rec)
		if len(left) > 3 {
			gone := i%3 + 1
			first += uint64(gone)
			left = left[gone:]
			done(t, l.Trim(first))
		}
		holds(t, l, first, left...)
		if i%11 == 0 {
			done(t, l.Sync())
			l = crashed(t, d)
			holds(t, l, first, left...)
		}
	}
	done(t, l.Trim(l.Next()))
	holds(t, l, 200)
	l = crashed(t, d)
	want(t, "Trim of none", l.Trim(200), api.OK)
	want(t, "Trim above", l.Trim(201), api.ErrRange)
	want(t, "Trim below", l.Trim(199), api.ErrRange)
	holds(t, l, 200)
	put(t, l, "x")
	done(t, l.Sync())
	holds(t, crashed(t, d), 200, "x")
}

func TestTrimWithLittleRoom(t *testing.T) {
	for room := range 120 {
		l, d := filled(t, "aaaaaaaa", "bbbbbbbb", "cccccccc")
		put(t, l, "dddddddd")
		d.Room(room)
		first, all := uint64(0), []string{"aaaaaaaa", "bbbbbbbb", "cccccccc", "dddddddd"}
		e := l.Trim(2)
		switch e {
		case api.OK:
			first, all = 2, all[2:]
		case api.ErrFull:
			want(t, "outside", l.Trim(5), api.ErrRange)
			done(t, l.Sync())
		default:
			t.Fatalf("room %d: Trim: %d", room, e)
		}
		holds(t, l, first, all...)
		holds(t, opened(t, d), first, all...)
		l = crashed(t, d)
		holds(t, l, first, all...)
		d.Room(roomy)
		put(t, l, "e")
		done(t, l.Trim(3))
		holds(t, crashed(t, d), 3, "dddddddd", "e")
	}
}

func TestCutAndTrimMakeSure(t *testing.T) {
	l, d := filled(t)
	put(t, l, "a", "b")
	done(t, l.Cut(2))
	l = crashed(t, d)
	holds(t, l, 0, "a", "b")
	put(t, l, "c")
	done(t, l.Trim(0))
	l = crashed(t, d)
	holds(t, l, 0, "a", "b", "c")
	done(t, l.Trim(1))
	put(t, l, "d")
	done(t, l.Trim(1))
	holds(t, crashed(t, d), 1, "b", "c", "d")
}

func TestALogLongerThanAFileMayGrow(t *testing.T) {
	l, d := filled(t)
	var all []string
	for i := range 150 {
		all = append(all, strings.Repeat(string(rune('a'+i%26)), longest-i))
	}
	put(t, l, all...)
	holds(t, l, 0, all...)
	done(t, l.Sync())
	l = crashed(t, d)
	holds(t, l, 0, all...)
	done(t, l.Cut(140))
	put(t, l, "x")
	done(t, l.Trim(3))
	put(t, l, "y")
	done(t, l.Sync())
	left := append(slices.Clone(all[3:140]), "x", "y")
	l = crashed(t, d)
	holds(t, l, 3, left...)
	done(t, l.Trim(100))
	put(t, l, all[:80]...)
	left = append(left[97:], all[:80]...)
	done(t, l.Cut(222))
	holds(t, crashed(t, d), 100, left...)
	l = opened(t, d)
	done(t, l.Cut(101))
	put(t, l, "z")
	done(t, l.Sync())
	holds(t, crashed(t, d), 100, all[100], "z")
}

func TestManyRecords(t *testing.T) {
	l, d := filled(t)
	var all []string
	for i := range 3000 {
		all = append(all, fmt.Sprint(i))
	}
	put(t, l, all...)
	done(t, l.Sync())
	l = crashed(t, d)
	holds(t, l, 0, all...)
	done(t, l.Trim(999))
	done(t, l.Cut(1001))
	holds(t, crashed(t, d), 999, "999", "1000")
}

func TestWhatIsGoneTakesNoRoomForEver(t *testing.T) {
	d := disk.New(1 << 17)
	l := opened(t, d)
	rec := strings.Repeat("r", 1000)
	for i := range uint64(1500) {
		put(t, l, rec, rec)
		done(t, l.Trim(i))
		if i%5 == 0 {
			l = crashed(t, d)
		}
		done(t, l.Cut(i+1))
		holds(t, l, i, rec)
	}
	if n := len(d.List()); n > 200 {
		t.Errorf("%d files", n)
	}
}

// P9.3: a log that is over

// lost are the calls that a disk may cut, each so that it does something.
func lost() map[string]func(l *wal.Log) api.Errno {
	return map[string]func(l *wal.Log) api.Errno{
		"Append":      func(l *wal.Log) api.Errno { return l.Append([]byte("e")) },
		"Append(nil)": func(l *wal.Log) api.Errno { return l.Append(nil) },
		"Sync":        func(l *wal.Log) api.Errno { return l.Sync() },
		"Cut(2)":      func(l *wal.Log) api.Errno { return l.Cut(2) },
		"Cut(1)":      func(l *wal.Log) api.Errno { return l.Cut(1) },
		"Trim(2)":     func(l *wal.Log) api.Errno { return l.Trim(2) },
		"Trim(4)":     func(l *wal.Log) api.Errno { return l.Trim(4) },
	}
}

// isOver fails the test where a log takes something still.
func isOver(t *testing.T, l *wal.Log) {
	t.Helper()
	want(t, "Append", l.Append([]byte("x")), api.ErrLost)
	want(t, "Append of what is too long", l.Append(make([]byte, longest+1)), api.ErrLost)
	want(t, "Sync", l.Sync(), api.ErrLost)
	want(t, "Cut", l.Cut(l.Next()), api.ErrLost)
	want(t, "Trim", l.Trim(l.First()), api.ErrLost)
	for _, n := range []uint64{l.First() - 1, l.Next() + 1, 1<<64 - 1} {
		want(t, "Cut outside", l.Cut(n), api.ErrLost)
		want(t, "Trim outside", l.Trim(n), api.ErrLost)
	}
}

func TestALogIsOverBehindErrLost(t *testing.T) {
	for what, call := range lost() {
		for fuse := 0; ; fuse++ {
			l, d := filled(t, "a", "b", "c")
			done(t, l.Trim(1))
			put(t, l, "d")
			d.Fuse(fuse)
			e := call(l)
			if e == api.OK && fuse > 0 {
				break
			}
			if e != api.ErrLost || fuse > 100 {
				t.Fatalf("%s, fuse %d: %d", what, fuse, e)
			}
			holds(t, l, 1, "b", "c", "d")
			isOver(t, l)
			d.Crash(nil, 0)
			isOver(t, l)
			holds(t, l, 1, "b", "c", "d")
			if n := d.Waiting(); n > 0 {
				t.Errorf("%s, fuse %d: a log that is over did %d operations", what, fuse, n)
			}
			again := opened(t, d)
			isOver(t, l)
			put(t, again, "x")
			isOver(t, l)
		}
	}
}

func TestADiskThatIsDownEndsALog(t *testing.T) {
	for what, call := range lost() {
		l, d := filled(t, "a", "b", "c")
		put(t, l, "d")
		d.Fuse(0)
		want(t, "the disk's Sync", d.Sync(), api.ErrLost)
		want(t, what, call(l), api.ErrLost)
		isOver(t, l)
		holds(t, l, 0, "a", "b", "c", "d")
	}
}

func TestNoOtherErrorEndsALog(t *testing.T) {
	l, d := filled(t, "a", "b")
	done(t, l.Trim(1))
	want(t, "ErrLong", l.Append(make([]byte, longest+1)), api.ErrLong)
	want(t, "ErrRange", l.Cut(0), api.ErrRange)
	want(t, "ErrRange", l.Trim(3), api.ErrRange)
	_, e := l.Get(0)
	want(t, "ErrRange", e, api.ErrRange)
	d.Room(0)
	want(t, "ErrFull", l.Append([]byte("c")), api.ErrFull)
	l.Trim(1)
	d.Room(roomy)
	holds(t, l, 1, "b")
	put(t, l, "c")
	want(t, "Sync", l.Sync(), api.OK)
	want(t, "Cut", l.Cut(3), api.OK)
	want(t, "Trim", l.Trim(2), api.OK)
	holds(t, crashed(t, d), 2, "c")
}

// P9.5: a nil log

func TestNilLog(t *testing.T) {
	var l *wal.Log
	if l.First() != 0 || l.Next() != 0 {
		t.Error(l.First(), l.Next())
	}
	for _, n := range []uint64{0, 1, 1<<64 - 1} {
		if b, e := l.Get(n); len(b) != 0 || e != api.ErrRange {
			t.Errorf("Get(%d): %q, %d", n, b, e)
		}
		want(t, "Cut", l.Cut(n), api.ErrLost)
		want(t, "Trim", l.Trim(n), api.ErrLost)
	}
	want(t, "Append", l.Append(nil), api.ErrLost)
	want(t, "Append", l.Append([]byte("a")), api.ErrLost)
	want(t, "Append of what is too long", l.Append(make([]byte, longest+1)), api.ErrLost)
	want(t, "Sync", l.Sync(), api.ErrLost)
}

// What is handed in, and what is answered

func TestWhatIsAppendedIsNotKept(t *testing.T) {
	spare := []byte("abcdef")
	l, d := filled(t)
	done(t, l.Append(spare[:3]))
	if string(spare) != "abcdef" {
		t.Errorf("changed: %q", spare)
	}
	copy(spare, "------")
	holds(t, l, 0, "abc")
	done(t, l.Sync())
	holds(t, crashed(t, d), 0, "abc")
}

func TestGetIsNewMemory(t *testing.T) {
	l, d := filled(t, "abc", "def")
	for range 2 {
		for n := range uint64(2) {
			b, _ := l.Get(n)
			b = b[:cap(b)]
			for i := range b {
				b[i] = '-'
			}
		}
		holds(t, l, 0, "abc", "def")
		l = crashed(t, d)
	}
}
