package disk_test

import (
	"fmt"
	"math/rand"
	"slices"
	"sort"
	"strings"
	"testing"

	"tabellion/api"
	"tabellion/disk"
)

const (
	roomy = 1 << 30
	whole = 1 << 30 // more bytes than any write of these tests has
)

// want fails the test where an answer isn't the one that is asked for.
func want(t *testing.T, what string, got, asked api.Errno) {
	t.Helper()
	if got != asked {
		t.Errorf("%s: %d, not %d", what, got, asked)
	}
}

// holds fails the test where the disk's files aren't those that are named, each with its text.
func holds(t *testing.T, d *disk.Disk, pairs ...string) {
	t.Helper()
	var names []string
	used := 0
	for i := 0; i < len(pairs); i += 2 {
		name, text := pairs[i], pairs[i+1]
		names = append(names, name)
		used += len(text)
		if b, e := d.Read(name); string(b) != text || e != api.OK {
			t.Errorf("Read(%q): %q, %d, not %q", name, b, e, text)
		}
	}
	if got := d.List(); !slices.Equal(got, names) {
		t.Errorf("List: %q, not %q", got, names)
	}
	if got := d.Used(); got != used {
		t.Errorf("Used: %d, not %d", got, used)
	}
}

// waits fails the test where not so many operations wait.
func waits(t *testing.T, d *disk.Disk, n int) {
	t.Helper()
	if got := d.Waiting(); got != n {
		t.Errorf("Waiting: %d, not %d", got, n)
	}
}

// put writes, and stops the test where that is refused.
func put(t *testing.T, d *disk.Disk, name string, at int, text string) {
	t.Helper()
	if e := d.Write(name, at, []byte(text)); e != api.OK {
		t.Fatalf("Write(%q, %d, %d bytes): %d", name, at, len(text), e)
	}
}

// done stops the test where an answer isn't OK.
func done(t *testing.T, e api.Errno) {
	t.Helper()
	if e != api.OK {
		t.Fatalf("answered %d", e)
	}
}

// synced answers a disk on which files lie for sure.
func synced(t *testing.T, pairs ...string) *disk.Disk {
	t.Helper()
	d := disk.New(roomy)
	for i := 0; i < len(pairs); i += 2 {
		put(t, d, pairs[i], 0, pairs[i+1])
	}
	done(t, d.Sync())
	return d
}

// fallen answers a down disk with a file that is sure and one that waits.
func fallen(t *testing.T) *disk.Disk {
	t.Helper()
	d := synced(t, "a", "xy")
	put(t, d, "b", 0, "abc")
	d.Fuse(0)
	want(t, "Sync", d.Sync(), api.ErrLost)
	return d
}

// P8.1: New

func TestNewDisk(t *testing.T) {
	d := disk.New(5)
	if d.Down() {
		t.Error("down")
	}
	holds(t, d)
	waits(t, d, 0)
	for range 100 {
		want(t, "Sync", d.Sync(), api.OK)
	}
	put(t, d, "a", 0, "12345")
	want(t, "one more", d.Write("a", 5, []byte("6")), api.ErrFull)
}

func TestRoomBelowZeroIsNone(t *testing.T) {
	for _, n := range []int{-1, -5, -1 << 63} {
		d := disk.New(n)
		put(t, d, "a", 0, "")
		want(t, "New below 0", d.Write("a", 0, []byte("x")), api.ErrFull)
		d.Room(1)
		put(t, d, "a", 0, "x")
		d = synced(t, "a", "")
		d.Room(n)
		put(t, d, "a", 0, "")
		want(t, "Room below 0", d.Write("a", 0, []byte("x")), api.ErrFull)
	}
}

func TestDisksAreApart(t *testing.T) {
	one, other := disk.New(roomy), disk.New(roomy)
	put(t, one, "a", 0, "x")
	one.Fuse(0)
	want(t, "Sync", one.Sync(), api.ErrLost)
	holds(t, other)
	waits(t, other, 0)
	want(t, "Sync", other.Sync(), api.OK)
}

// P8.1: Write

func TestWrite(t *testing.T) {
	d := disk.New(roomy)
	put(t, d, "a", 0, "abc")
	holds(t, d, "a", "abc")
	put(t, d, "a", 1, "X")
	holds(t, d, "a", "aXc")
	put(t, d, "a", 2, "YZ")
	holds(t, d, "a", "aXYZ")
	put(t, d, "a", 4, "e")
	holds(t, d, "a", "aXYZe")
	put(t, d, "a", 7, "h")
	holds(t, d, "a", "aXYZe\x00\x00h")
	put(t, d, "b", 2, "c")
	holds(t, d, "a", "aXYZe\x00\x00h", "b", "\x00\x00c")
	waits(t, d, 6)
}

func TestEmptyWriteMakesAFileAlone(t *testing.T) {
	d := disk.New(0)
	want(t, "nil", d.Write("a", 0, nil), api.OK)
	want(t, "empty", d.Write("b", 9, []byte{}), api.OK)
	want(t, "last place", d.Write("c", 1<<20, nil), api.OK)
	holds(t, d, "a", "", "b", "", "c", "")
	waits(t, d, 3)
	d = synced(t, "a", "xy")
	for _, at := range []int{0, 1, 2, 3} {
		put(t, d, "a", at, "")
		holds(t, d, "a", "xy")
	}
}

func TestZerosAreLaidWhereAFileWasCut(t *testing.T) {
	d := synced(t, "a", "abcdef")
	done(t, d.Cut("a", 1))
	put(t, d, "a", 3, "X")
	holds(t, d, "a", "a\x00\x00X")
	d.Crash([]bool{true, true}, whole)
	holds(t, d, "a", "a\x00\x00X")
}

func TestNames(t *testing.T) {
	for _, name := range []string{"a", "z", "0", "9", ".", "..", "az.09", "abcdefghijklmnop", "................"} {
		d := disk.New(roomy)
		want(t, "Write "+name, d.Write(name, 0, []byte("x")), api.OK)
		holds(t, d, name, "x")
		want(t, "Rename "+name, d.Rename(name, name), api.OK)
		holds(t, d, name, "x")
	}
	wrong := []string{"", "A", "Z", "a ", " a", "a/b", "-", "_", "`", "{", "@", ":", "\x00", "\xff", "é", "a\n", "abcdefghijklmnopq", strings.Repeat("a", 1000)}
	for _, name := range wrong {
		d := synced(t, "a", "x")
		want(t, "Write "+name, d.Write(name, 0, []byte("x")), api.ErrArg)
		want(t, "Rename "+name, d.Rename("a", name), api.ErrArg)
		want(t, "Cut "+name, d.Cut(name, 0), api.ErrNone)
		want(t, "Remove "+name, d.Remove(name), api.ErrNone)
		want(t, "Rename from "+name, d.Rename(name, "b"), api.ErrNone)
		_, e := d.Read(name)
		want(t, "Read "+name, e, api.ErrNone)
		holds(t, d, "a", "x")
		waits(t, d, 0)
	}
}

func TestNoByteButTheNamed(t *testing.T) {
	for c := range 256 {
		name := string([]byte{'a', byte(c)})
		asked := api.ErrArg
		if strings.Contains("abcdefghijklmnopqrstuvwxyz0123456789.", string([]byte{byte(c)})) {
			asked = api.OK
		}
		want(t, fmt.Sprintf("Write %q", name), disk.New(roomy).Write(name, 0, nil), asked)
	}
}

func TestPlacesOfAWrite(t *testing.T) {
	d := disk.New(roomy)
	for _, at := range []int{-1, -1 << 63, 1<<20 + 1, 1<<63 - 1} {
		want(t, "Write", d.Write("a", at, []byte("x")), api.ErrRange)
		want(t, "empty Write", d.Write("a", at, nil), api.ErrRange)
	}
	holds(t, d)
	waits(t, d, 0)
	put(t, d, "a", 1<<20, "x")
	holds(t, d, "a", strings.Repeat("\x00", 1<<20)+"x")
}

func TestAWriteFillsTheRoom(t *testing.T) {
	d := disk.New(3)
	want(t, "zeros count", d.Write("a", 1, []byte("abc")), api.ErrFull)
	want(t, "far place", d.Write("a", 1<<20, []byte("a")), api.ErrFull)
	holds(t, d)
	waits(t, d, 0)
	put(t, d, "a", 1, "ab")
	want(t, "another file", d.Write("b", 0, []byte("x")), api.ErrFull)
	put(t, d, "a", 0, "xyz")
	want(t, "behind", d.Write("a", 2, []byte("12")), api.ErrFull)
	holds(t, d, "a", "xyz")
	put(t, d, "b", 7, "")
	done(t, d.Cut("a", 1))
	put(t, d, "b", 0, "12")
	holds(t, d, "a", "x", "b", "12")
	done(t, d.Remove("b"))
	put(t, d, "c", 0, "34")
	put(t, d, "d", 0, "")
	done(t, d.Rename("d", "c"))
	put(t, d, "e", 1, "5")
	want(t, "full", d.Write("c", 0, []byte("6")), api.ErrFull)
	holds(t, d, "a", "x", "c", "", "e", "\x005")
}

func TestAboveALesserRoomEveryWriteIsRefused(t *testing.T) {
	d := synced(t, "a", "abcd")
	d.Room(3)
	want(t, "within", d.Write("a", 0, []byte("x")), api.ErrFull)
	want(t, "empty", d.Write("a", 0, nil), api.ErrFull)
	want(t, "empty, new", d.Write("b", 0, nil), api.ErrFull)
	holds(t, d, "a", "abcd")
	want(t, "Rename", d.Rename("a", "b"), api.OK)
	want(t, "Sync", d.Sync(), api.OK)
	want(t, "Cut", d.Cut("b", 3), api.OK)
	put(t, d, "b", 0, "x")
	holds(t, d, "b", "xbc")
}

func TestWhatIsWrittenIsNotKept(t *testing.T) {
	spare := []byte("abcdef")
	b := spare[:3]
	d := disk.New(roomy)
	want(t, "Write", d.Write("a", 0, b), api.OK)
	put(t, d, "a", 3, "x")
	if string(spare) != "abcdef" {
		t.Errorf("changed: %q", spare)
	}
	copy(spare, "------")
	holds(t, d, "a", "abcx")
	d.Crash([]bool{true}, whole)
	holds(t, d, "a", "abc")
}

// P8.1: Cut, Remove, Rename, Sync

func TestCut(t *testing.T) {
	d := synced(t, "a", "abcd", "b", "")
	want(t, "none", d.Cut("c", 0), api.ErrNone)
	want(t, "none, and outside", d.Cut("c", -1), api.ErrNone)
	for _, n := range []int{-1, 5, -1 << 63, 1<<63 - 1} {
		want(t, "outside", d.Cut("a", n), api.ErrRange)
	}
	want(t, "outside of an empty one", d.Cut("b", 1), api.ErrRange)
	waits(t, d, 0)
	want(t, "to its length", d.Cut("a", 4), api.OK)
	holds(t, d, "a", "abcd", "b", "")
	want(t, "to 3", d.Cut("a", 3), api.OK)
	holds(t, d, "a", "abc", "b", "")
	want(t, "to 4 again", d.Cut("a", 4), api.ErrRange)
	want(t, "to 0", d.Cut("a", 0), api.OK)
	want(t, "empty to 0", d.Cut("b", 0), api.OK)
	holds(t, d, "a", "", "b", "")
	waits(t, d, 4)
}

func TestRemove(t *testing.T) {
	d := synced(t, "a", "abcd", "b", "x")
	want(t, "none", d.Remove("c"), api.ErrNone)
	waits(t, d, 0)
	want(t, "a", d.Remove("a"), api.OK)
	want(t, "a again", d.Remove("a"), api.ErrNone)
	holds(t, d, "b", "x")
	waits(t, d, 1)
	put(t, d, "a", 1, "y")
	holds(t, d, "a", "\x00y", "b", "x")
}

func TestRename(t *testing.T) {
	d := synced(t, "a", "abcd", "b", "xy")
	want(t, "none", d.Rename("c", "d"), api.ErrNone)
	want(t, "none, and no name", d.Rename("c", "C"), api.ErrNone)
	want(t, "no name", d.Rename("a", "C"), api.ErrArg)
	waits(t, d, 0)
	want(t, "to its own", d.Rename("a", "a"), api.OK)
	holds(t, d, "a", "abcd", "b", "xy")
	want(t, "to another's", d.Rename("a", "b"), api.OK)
	holds(t, d, "b", "abcd")
	want(t, "to a new one", d.Rename("b", "c"), api.OK)
	holds(t, d, "c", "abcd")
	waits(t, d, 3)
	put(t, d, "b", 0, "new")
	put(t, d, "c", 0, "x")
	holds(t, d, "b", "new", "c", "xbcd")
}

func TestSync(t *testing.T) {
	d := disk.New(roomy)
	put(t, d, "a", 0, "x")
	done(t, d.Rename("a", "b"))
	waits(t, d, 2)
	want(t, "Sync", d.Sync(), api.OK)
	waits(t, d, 0)
	want(t, "Sync again", d.Sync(), api.OK)
	waits(t, d, 0)
	d.Crash(nil, 0)
	holds(t, d, "b", "x")
}

func TestDownIsSaidFirst(t *testing.T) {
	d := fallen(t)
	want(t, "Write", d.Write("a", 0, nil), api.ErrLost)
	want(t, "Write to no name", d.Write("A", -1, nil), api.ErrLost)
	want(t, "Cut", d.Cut("a", 0), api.ErrLost)
	want(t, "Cut of none", d.Cut("c", 0), api.ErrLost)
	want(t, "Cut outside", d.Cut("a", 9), api.ErrLost)
	want(t, "Remove", d.Remove("a"), api.ErrLost)
	want(t, "Remove of none", d.Remove("c"), api.ErrLost)
	want(t, "Rename", d.Rename("a", "c"), api.ErrLost)
	want(t, "Rename of none", d.Rename("c", "C"), api.ErrLost)
	want(t, "Sync", d.Sync(), api.ErrLost)
	waits(t, d, 1)
}

func TestOrderOfAWritesErrors(t *testing.T) {
	d := disk.New(0)
	want(t, "name first", d.Write("A", -1, []byte("x")), api.ErrArg)
	want(t, "place next", d.Write("a", 1<<20+1, []byte("x")), api.ErrRange)
	want(t, "room last", d.Write("a", 1<<20, []byte("x")), api.ErrFull)
	holds(t, d)
}

// P8.2: Read, List, Used, Waiting, Down, Room, Fuse

func TestReadIsNewMemory(t *testing.T) {
	d := synced(t, "a", "abc")
	b, _ := d.Read("a")
	b = b[:cap(b)]
	for i := range b {
		b[i] = '-'
	}
	holds(t, d, "a", "abc")
	put(t, d, "a", 3, "d")
	for i := range b {
		b[i] = '-'
	}
	holds(t, d, "a", "abcd")
	d.Crash(nil, 0)
	holds(t, d, "a", "abc")
}

func TestReadBesideAnErrorIsEmpty(t *testing.T) {
	d := synced(t, "a", "abc")
	if b, e := d.Read("b"); len(b) != 0 || e != api.ErrNone {
		t.Errorf("none: %q, %d", b, e)
	}
	d.Fuse(0)
	d.Sync()
	for _, name := range []string{"a", "b", "A"} {
		if b, e := d.Read(name); len(b) != 0 || e != api.ErrLost {
			t.Errorf("down: %q, %d", b, e)
		}
	}
}

func TestListRises(t *testing.T) {
	d := disk.New(roomy)
	names := []string{"b", "a", "ab", ".", "z9", "0", "a.", "10", "9", "aa"}
	for _, name := range names {
		put(t, d, name, 0, "")
	}
	sort.Strings(names)
	list := d.List()
	if !slices.Equal(list, names) {
		t.Errorf("%q", list)
	}
	for i := range list {
		list[i] = "-"
	}
	if !slices.Equal(d.List(), names) {
		t.Error("List is not new memory")
	}
}

func TestADownDiskTellsWhatItHas(t *testing.T) {
	d := fallen(t)
	if !d.Down() || d.Used() != 5 || !slices.Equal(d.List(), []string{"a", "b"}) {
		t.Error(d.Down(), d.Used(), d.List())
	}
	waits(t, d, 1)
	d.Crash([]bool{true}, whole)
	if d.Down() {
		t.Error("down behind a crash")
	}
	holds(t, d, "a", "xy", "b", "abc")
}

func TestRoom(t *testing.T) {
	d := disk.New(0)
	d.Room(2)
	put(t, d, "a", 0, "12")
	want(t, "3 in 2", d.Write("a", 2, []byte("3")), api.ErrFull)
	d.Room(3)
	put(t, d, "a", 2, "3")
	d.Fuse(0)
	d.Sync()
	d.Room(4)
	d.Crash([]bool{true, true}, whole)
	put(t, d, "a", 3, "4")
	want(t, "5 in 4", d.Write("a", 4, []byte("5")), api.ErrFull)
	holds(t, d, "a", "1234")
}

func TestFuse(t *testing.T) {
	calls := []func(d *disk.Disk) api.Errno{
		func(d *disk.Disk) api.Errno { return d.Write("c", 0, []byte("z")) },
		func(d *disk.Disk) api.Errno { return d.Cut("a", 1) },
		func(d *disk.Disk) api.Errno { return d.Rename("b", "d") },
		func(d *disk.Disk) api.Errno { return d.Remove("a") },
		func(d *disk.Disk) api.Errno { return d.Sync() },
	}
	for n := range len(calls) + 1 {
		d := synced(t, "a", "xy", "b", "v")
		d.Fuse(n)
		for i, call := range calls {
			asked := api.OK
			if i >= n {
				asked = api.ErrLost
			}
			want(t, fmt.Sprintf("fuse %d, call %d", n, i), call(d), asked)
			if d.Down() != (i >= n) {
				t.Errorf("fuse %d, call %d: down %t", n, i, d.Down())
			}
		}
		if n == len(calls) {
			waits(t, d, 0)
			continue
		}
		waits(t, d, n)
	}
}

func TestWhatTheFuseCutsIsNotDone(t *testing.T) {
	d := synced(t, "a", "xy")
	d.Fuse(0)
	want(t, "Write", d.Write("a", 0, []byte("zzz")), api.ErrLost)
	if d.Used() != 2 {
		t.Error(d.Used())
	}
	waits(t, d, 0)
	d.Crash([]bool{true}, whole)
	holds(t, d, "a", "xy")
	put(t, d, "a", 2, "z")
	d.Fuse(0)
	want(t, "Sync", d.Sync(), api.ErrLost)
	waits(t, d, 1)
	d.Crash(nil, 0)
	holds(t, d, "a", "xy")
}

func TestTheFuseCountsOperationsAlone(t *testing.T) {
	d := synced(t, "a", "xy")
	d.Room(2)
	for _, n := range []int{1, 0} {
		d.Fuse(n)
		want(t, "ErrArg", d.Write("A", 0, nil), api.ErrArg)
		want(t, "ErrRange", d.Write("a", -1, nil), api.ErrRange)
		want(t, "ErrFull", d.Write("b", 0, []byte("x")), api.ErrFull)
		want(t, "ErrNone", d.Cut("b", 0), api.ErrNone)
		want(t, "ErrRange", d.Cut("a", 3), api.ErrRange)
		want(t, "ErrNone", d.Remove("b"), api.ErrNone)
		want(t, "ErrNone", d.Rename("b", "c"), api.ErrNone)
		want(t, "ErrArg", d.Rename("a", "A"), api.ErrArg)
		holds(t, d, "a", "xy")
		if d.Down() {
			t.Fatal("down")
		}
		if n == 1 {
			want(t, "Sync", d.Sync(), api.OK)
		}
		want(t, "Sync", d.Sync(), api.ErrLost)
		d.Crash(nil, 0)
	}
}

func TestAFuseIsSetAnewOrTakenAway(t *testing.T) {
	for _, n := range []int{-1, -7, -1 << 63} {
		d := synced(t)
		d.Fuse(0)
		d.Fuse(n)
		for range 10 {
			want(t, "no fuse", d.Sync(), api.OK)
		}
	}
	d := synced(t)
	d.Fuse(1)
	d.Fuse(2)
	want(t, "first", d.Sync(), api.OK)
	want(t, "second", d.Sync(), api.OK)
	want(t, "third", d.Sync(), api.ErrLost)
	d.Fuse(5)
	want(t, "a fuse lifts no disk", d.Sync(), api.ErrLost)
	if !d.Down() {
		t.Error("up")
	}
	d.Crash(nil, 0)
	for range 10 {
		want(t, "behind a crash", d.Sync(), api.OK)
	}
	d.Fuse(1)
	d.Crash(nil, 0)
	for range 10 {
		want(t, "behind a crash of an up disk", d.Sync(), api.OK)
	}
}

// P8.3: Crash

// begun answers the disk of the chapter's example.
func begun(t *testing.T) *disk.Disk {
	t.Helper()
	d := synced(t, "a", "xy")
	put(t, d, "a", 2, "z")
	put(t, d, "b", 0, "abc")
	return d
}

func TestCrashOfTheExample(t *testing.T) {
	rows := []struct {
		keep  []bool
		torn  int
		pairs []string
	}{
		{nil, 0, []string{"a", "xy"}},
		{nil, 9, []string{"a", "xy"}},
		{[]bool{}, 9, []string{"a", "xy"}},
		{[]bool{false, false, true, true}, 9, []string{"a", "xy"}},
		{[]bool{false, true}, 2, []string{"a", "xy", "b", "ab"}},
		{[]bool{false, true}, 0, []string{"a", "xy", "b", ""}},
		{[]bool{false, true}, -1, []string{"a", "xy", "b", ""}},
		{[]bool{false, true}, -1 << 63, []string{"a", "xy", "b", ""}},
		{[]bool{false, true}, 3, []string{"a", "xy", "b", "abc"}},
		{[]bool{false, true}, 4, []string{"a", "xy", "b", "abc"}},
		{[]bool{false, true}, 1<<63 - 1, []string{"a", "xy", "b", "abc"}},
		{[]bool{true}, 0, []string{"a", "xy"}},
		{[]bool{true}, 1, []string{"a", "xyz"}},
		{[]bool{true, false}, 1, []string{"a", "xyz"}},
		{[]bool{true, true}, 0, []string{"a", "xyz", "b", ""}},
		{[]bool{true, true, true}, 1, []string{"a", "xyz", "b", "a"}},
	}
	for _, row := range rows {
		d := begun(t)
		keep := slices.Clone(row.keep)
		d.Crash(keep, row.torn)
		holds(t, d, row.pairs...)
		waits(t, d, 0)
		if !slices.Equal(keep, row.keep) {
			t.Errorf("keep was changed: %v", keep)
		}
	}
}

func TestZerosOfATornWriteAreLaidWithItsBytes(t *testing.T) {
	d := disk.New(roomy)
	put(t, d, "a", 2, "cd")
	d.Crash([]bool{true}, 0)
	holds(t, d, "a", "")
	put(t, d, "a", 2, "cd")
	d.Crash([]bool{true}, 1)
	holds(t, d, "a", "\x00\x00c")
}

func TestOnlyTheLastOfTheKeptIsTorn(t *testing.T) {
	d := disk.New(roomy)
	put(t, d, "a", 0, "abc")
	put(t, d, "b", 0, "abc")
	put(t, d, "c", 0, "abc")
	d.Crash([]bool{true, true, false}, 1)
	holds(t, d, "a", "abc", "b", "a")
	put(t, d, "d", 0, "defg")
	done(t, d.Cut("d", 3))
	d.Crash([]bool{true, true}, 1)
	holds(t, d, "a", "abc", "b", "a", "d", "def")
	put(t, d, "e", 0, "xyz")
	done(t, d.Rename("e", "f"))
	done(t, d.Remove("d"))
	d.Crash([]bool{true, true, true}, 0)
	holds(t, d, "a", "abc", "b", "a", "f", "xyz")
}

func TestWhatIsDoneAgainWithoutWhatWasAheadOfIt(t *testing.T) {
	d := synced(t, "a", "ab")
	put(t, d, "a", 2, "cd")
	put(t, d, "a", 4, "ef")
	d.Crash([]bool{false, true}, whole)
	holds(t, d, "a", "ab\x00\x00ef")

	d = synced(t, "a", "ab")
	put(t, d, "a", 2, "cdef")
	done(t, d.Cut("a", 4))
	d.Crash([]bool{false, true}, whole)
	holds(t, d, "a", "ab")

	d = synced(t, "z", "z")
	put(t, d, "a", 0, "ab")
	done(t, d.Cut("a", 1))
	put(t, d, "b", 0, "cd")
	done(t, d.Rename("b", "z"))
	put(t, d, "c", 0, "ef")
	done(t, d.Remove("c"))
	d.Crash([]bool{false, true, false, true, false, true}, whole)
	holds(t, d, "z", "z")

	d = synced(t, "a", "ab")
	done(t, d.Rename("a", "b"))
	put(t, d, "b", 2, "c")
	d.Crash([]bool{false, true}, whole)
	holds(t, d, "a", "ab", "b", "\x00\x00c")

	d = synced(t, "a", "ab", "b", "cd")
	done(t, d.Remove("a"))
	done(t, d.Rename("b", "a"))
	d.Crash([]bool{true, false}, whole)
	holds(t, d, "b", "cd")
	done(t, d.Rename("b", "b"))
	d.Crash([]bool{true}, 0)
	holds(t, d, "b", "cd")
}

func TestAKeptRenameTakesTheOthersPlace(t *testing.T) {
	d := synced(t, "a", "ab", "b", "cde")
	done(t, d.Rename("a", "b"))
	d.Crash([]bool{true}, 0)
	holds(t, d, "b", "ab")
	d = synced(t, "a", "ab", "b", "cde")
	done(t, d.Rename("a", "b"))
	d.Crash(nil, 0)
	holds(t, d, "a", "ab", "b", "cde")
}

func TestCrashAsksForNoRoom(t *testing.T) {
	d := synced(t, "a", "12345")
	d.Room(5)
	done(t, d.Remove("a"))
	put(t, d, "b", 0, "67890")
	d.Crash([]bool{false, true}, whole)
	holds(t, d, "a", "12345", "b", "67890")
	want(t, "Write", d.Write("a", 0, nil), api.ErrFull)
}

func TestWhatACrashKeptIsSure(t *testing.T) {
	d := begun(t)
	d.Crash([]bool{true, true}, 2)
	holds(t, d, "a", "xyz", "b", "ab")
	put(t, d, "c", 0, "d")
	d.Crash(nil, 0)
	holds(t, d, "a", "xyz", "b", "ab")
}

func TestACrashTakesNothingFromAnother(t *testing.T) {
	d := synced(t, "a", "abc")
	put(t, d, "a", 0, "xyz")
	d.Crash(nil, 0)
	put(t, d, "a", 1, "-")
	put(t, d, "a", 3, "d")
	holds(t, d, "a", "a-cd")
	d.Crash([]bool{false, true}, whole)
	holds(t, d, "a", "abcd")
	done(t, d.Cut("a", 1))
	put(t, d, "a", 1, "++")
	d.Crash(nil, 0)
	holds(t, d, "a", "abcd")
}

// P8.4: a nil disk

func TestNilDisk(t *testing.T) {
	var d *disk.Disk
	d.Room(9)
	d.Fuse(9)
	d.Crash([]bool{true}, 9)
	want(t, "Write", d.Write("a", 0, nil), api.ErrLost)
	want(t, "Write to no name", d.Write("", -1, nil), api.ErrLost)
	want(t, "Cut", d.Cut("a", 0), api.ErrLost)
	want(t, "Remove", d.Remove("a"), api.ErrLost)
	want(t, "Rename", d.Rename("a", "b"), api.ErrLost)
	want(t, "Sync", d.Sync(), api.ErrLost)
	b, e := d.Read("a")
	want(t, "Read", e, api.ErrLost)
	if len(b) != 0 || len(d.List()) != 0 || d.Used() != 0 || d.Waiting() != 0 || !d.Down() {
		t.Error(b, d.List(), d.Used(), d.Waiting(), d.Down())
	}
}

// All of it, against a model that makes the files anew each time it is asked.

// change is what an operation makes of files; part is how many bytes of a write count.
type change func(files map[string]string, part int)

// model of a disk.
type model struct {
	room, fuse int
	down       bool
	base       map[string]string
	changes    []change
}

// files of the model, with so many of its changes as pick takes.
func (m *model) files(pick func(i int) bool, torn int) map[string]string {
	made := make(map[string]string)
	for name, text := range m.base {
		made[name] = text
	}
	last := -1
	for i := range m.changes {
		if pick(i) {
			last = i
		}
	}
	for i, change := range m.changes {
		switch {
		case i == last:
			change(made, max(torn, 0))
		case pick(i):
			change(made, whole)
		}
	}
	return made
}

// all of the model's files as they are now.
func (m *model) all() map[string]string {
	return m.files(func(int) bool { return true }, whole)
}

// light lets the fuse burn; it answers whether an operation may be done.
func (m *model) light() bool {
	if m.fuse == 0 {
		m.down = true
		return false
	}
	if m.fuse > 0 {
		m.fuse--
	}
	return true
}

// add a change, if the fuse lets it.
func (m *model) add(c change) api.Errno {
	if !m.light() {
		return api.ErrLost
	}
	m.changes = append(m.changes, c)
	return api.OK
}

// written answers a text over which another one was laid.
func written(old string, at int, text string) string {
	if text == "" {
		return old
	}
	for len(old) < at {
		old += "\x00"
	}
	behind := ""
	if end := at + len(text); end < len(old) {
		behind = old[end:]
	}
	return old[:at] + text + behind
}

// total answers how many bytes files have.
func total(files map[string]string) int {
	n := 0
	for _, text := range files {
		n += len(text)
	}
	return n
}

func (m *model) write(name string, at int, text string) api.Errno {
	c := func(files map[string]string, part int) {
		files[name] = written(files[name], at, text[:min(part, len(text))])
	}
	if m.down {
		return api.ErrLost
	}
	if strings.ContainsAny(name, "AB") {
		return api.ErrArg
	}
	if at < 0 {
		return api.ErrRange
	}
	files := m.all()
	c(files, whole)
	if total(files) > m.room {
		return api.ErrFull
	}
	return m.add(c)
}

func (m *model) cut(name string, n int) api.Errno {
	text, there := m.all()[name]
	switch {
	case m.down:
		return api.ErrLost
	case !there:
		return api.ErrNone
	case n < 0 || n > len(text):
		return api.ErrRange
	}
	return m.add(func(files map[string]string, _ int) {
		if len(files[name]) > n {
			files[name] = files[name][:n]
		}
	})
}

func (m *model) remove(name string) api.Errno {
	_, there := m.all()[name]
	switch {
	case m.down:
		return api.ErrLost
	case !there:
		return api.ErrNone
	}
	return m.add(func(files map[string]string, _ int) { delete(files, name) })
}

func (m *model) rename(from, to string) api.Errno {
	_, there := m.all()[from]
	switch {
	case m.down:
		return api.ErrLost
	case !there:
		return api.ErrNone
	case strings.ContainsAny(to, "AB"):
		return api.ErrArg
	}
	return m.add(func(files map[string]string, _ int) {
		if text, there := files[from]; there {
			delete(files, from)
			files[to] = text
		}
	})
}

func (m *model) sync() api.Errno {
	if m.down || !m.light() {
		return api.ErrLost
	}
	m.base, m.changes = m.all(), nil
	return api.OK
}

func (m *model) crash(keep []bool, torn int) {
	m.base = m.files(func(i int) bool { return i < len(keep) && keep[i] }, torn)
	m.changes, m.down, m.fuse = nil, false, -1
}

// compare fails the test where a disk isn't as its model.
func compare(t *testing.T, d *disk.Disk, m *model) {
	t.Helper()
	files := m.all()
	var names []string
	for name := range files {
		names = append(names, name)
	}
	sort.Strings(names)
	if !slices.Equal(d.List(), names) || d.Used() != total(files) || d.Waiting() != len(m.changes) || d.Down() != m.down {
		t.Fatalf("%q, %d, %d, %t; not %q, %d, %d, %t", d.List(), d.Used(), d.Waiting(), d.Down(), names, total(files), len(m.changes), m.down)
	}
	for _, name := range append(names, "none") {
		text, there := files[name]
		b, e := d.Read(name)
		switch {
		case m.down:
			want(t, "Read", e, api.ErrLost)
		case !there:
			want(t, "Read", e, api.ErrNone)
		case string(b) != text || e != api.OK:
			t.Fatalf("Read(%q): %q, %d, not %q", name, b, e, text)
		}
	}
}

// step does one thing by chance to a disk and to its model, and answers what both said.
func step(source *rand.Rand, d *disk.Disk, m *model) (got, asked api.Errno) {
	names := []string{"a", "b", "c", "d", "A"}
	one, other := names[source.Intn(5)], names[source.Intn(5)]
	n := source.Intn(9) - 1
	switch source.Intn(20) {
	case 0, 1, 2, 3, 4, 5:
		text := "0123456789"[:source.Intn(11)]
		return d.Write(one, n, []byte(text)), m.write(one, n, text)
	case 6, 7, 8:
		return d.Cut(one, n), m.cut(one, n)
	case 9, 10:
		return d.Remove(one), m.remove(one)
	case 11, 12, 13:
		return d.Rename(one, other), m.rename(one, other)
	case 14, 15:
		return d.Sync(), m.sync()
	case 16:
		m.room = source.Intn(40)
		d.Room(m.room)
	case 17:
		m.fuse = max(source.Intn(12)-2, -1)
		d.Fuse(m.fuse)
	default:
		keep := make([]bool, source.Intn(len(m.changes)+3))
		for i := range keep {
			keep[i] = source.Intn(3) > 0
		}
		torn := source.Intn(12) - 1
		d.Crash(keep, torn)
		m.crash(keep, torn)
	}
	return api.OK, api.OK
}

func TestByTheModel(t *testing.T) {
	for seed := range 300 {
		source := rand.New(rand.NewSource(int64(seed)))
		d := disk.New(40)
		m := &model{room: 40, fuse: -1, base: make(map[string]string)}
		for i := range 100 {
			got, asked := step(source, d, m)
			if got != asked {
				t.Fatalf("seed %d, step %d: %d, not %d", seed, i, got, asked)
			}
			compare(t, d, m)
		}
	}
}
