package cell_test

import (
	"fmt"
	"math"
	"math/rand"
	"slices"
	"strings"
	"testing"

	"tabellion/api"
	"tabellion/cell"
	"tabellion/disk"
)

const (
	roomy = 1 << 30
	whole = 1 << 30 // more bytes than any write of these tests has
)

// want fails the test where an answer isn't the one that is asked for.
func want(t *testing.T, what string, got, asked api.Errno) {
	t.Helper()
	if got != asked {
		t.Errorf("%s: %d, not %d", what, got, asked)
	}
}

// done stops the test where an answer isn't OK.
func done(t *testing.T, e api.Errno) {
	t.Helper()
	if e != api.OK {
		t.Fatalf("answered %d", e)
	}
}

// hard answers a term and a vote.
func hard(term, vote uint64) api.Hard {
	return api.Hard{Term: term, Vote: vote}
}

// holds fails the test where a cell has something else.
func holds(t *testing.T, c *cell.Cell, asked api.Hard) {
	t.Helper()
	if got := c.Get(); got != asked {
		t.Errorf("Get: %v, not %v", got, asked)
	}
}

// opened answers the cell of a disk.
func opened(t *testing.T, d *disk.Disk) *cell.Cell {
	t.Helper()
	c, e := cell.Open(d, "cell")
	if e != api.OK || c == nil {
		t.Fatalf("Open: %v, %d", c, e)
	}
	return c
}

// crashed answers the cell of a disk that has crashed and kept nothing of what waited.
func crashed(t *testing.T, d *disk.Disk) *cell.Cell {
	t.Helper()
	d.Crash(nil, 0)
	return opened(t, d)
}

// begun answers a cell on a disk of its own, which was set.
func begun(t *testing.T, h api.Hard) (*cell.Cell, *disk.Disk) {
	t.Helper()
	d := disk.New(roomy)
	c := opened(t, d)
	done(t, c.Set(h))
	return c, d
}

// fell takes a disk down.
func fell(t *testing.T, d *disk.Disk) {
	t.Helper()
	d.Fuse(0)
	want(t, "the disk's Sync", d.Sync(), api.ErrLost)
}

// P10.1: Open

func TestACellThatWasNeverSet(t *testing.T) {
	d := disk.New(roomy)
	holds(t, opened(t, d), hard(0, 0))
	holds(t, opened(t, d), hard(0, 0))
	holds(t, crashed(t, d), hard(0, 0))
	holds(t, opened(t, disk.New(0)), hard(0, 0))
}

func TestCellNames(t *testing.T) {
	for _, name := range []string{"a", "z", "az", "vote", "zzzz", "abcd"} {
		d := disk.New(roomy)
		c, e := cell.Open(d, name)
		if c == nil || e != api.OK {
			t.Fatalf("%q: %d", name, e)
		}
		done(t, c.Set(hard(5, 2)))
		d.Crash(nil, 0)
		c, e = cell.Open(d, name)
		want(t, name, e, api.OK)
		holds(t, c, hard(5, 2))
	}
	down := disk.New(roomy)
	fell(t, down)
	wrong := []string{"", "abcde", "A", "aB", "a1", "0", ".", "a.", ".a", "a.b", " ", "a ", "`", "{", "@", "a-b", "\x00", "\xff", "é", "a\n", strings.Repeat("a", 1000)}
	for _, name := range wrong {
		for _, d := range []*disk.Disk{disk.New(roomy), disk.New(0), down, nil} {
			c, e := cell.Open(d, name)
			if c != nil || e != api.ErrArg {
				t.Errorf("%q: %v, %d", name, c, e)
			}
			if d.Waiting() > 0 || len(d.List()) > 0 {
				t.Errorf("%q: something was done", name)
			}
		}
	}
}

func TestNoByteOfACellsNameButTheNamed(t *testing.T) {
	for c := range 256 {
		for _, name := range []string{string([]byte{byte(c)}), string([]byte{'a', byte(c)}), string([]byte{byte(c), 'a'})} {
			asked := api.ErrArg
			if 'a' <= c && c <= 'z' {
				asked = api.OK
			}
			_, e := cell.Open(disk.New(roomy), name)
			want(t, fmt.Sprintf("%q", name), e, asked)
		}
	}
}

func TestOpenOfADiskThatIsDown(t *testing.T) {
	c, e := cell.Open(nil, "cell")
	if c != nil || e != api.ErrLost {
		t.Errorf("nil: %v, %d", c, e)
	}
	for _, d := range []*disk.Disk{disk.New(0), disk.New(roomy)} {
		fell(t, d)
		c, e = cell.Open(d, "cell")
		if c != nil || e != api.ErrLost {
			t.Errorf("down: %v, %d", c, e)
		}
	}
	_, d := begun(t, hard(5, 2))
	fell(t, d)
	c, e = cell.Open(d, "cell")
	if c != nil || e != api.ErrLost {
		t.Errorf("down: %v, %d", c, e)
	}
	holds(t, crashed(t, d), hard(5, 2))
}

func TestOpenThatIsCut(t *testing.T) {
	for fuse := 0; ; fuse++ {
		_, d := begun(t, hard(5, 2))
		d.Fuse(fuse)
		c, e := cell.Open(d, "cell")
		if e == api.OK {
			holds(t, c, hard(5, 2))
			break
		}
		if c != nil || e != api.ErrLost || !d.Down() || fuse > 100 {
			t.Fatalf("fuse %d: %v, %d", fuse, c, e)
		}
		holds(t, crashed(t, d), hard(5, 2))
	}
}

func TestOpenFindsWhatLiesThere(t *testing.T) {
	c, d := begun(t, hard(5, 2))
	for range 3 {
		holds(t, opened(t, d), hard(5, 2))
	}
	done(t, c.Set(hard(6, 0)))
	c = opened(t, d)
	holds(t, c, hard(6, 0))
	done(t, c.Set(hard(6, 3)))
	holds(t, opened(t, d), hard(6, 3))
	holds(t, crashed(t, d), hard(6, 3))
}

func TestOpenNeedsNoRoom(t *testing.T) {
	_, d := begun(t, hard(5, 2))
	d.Room(0)
	holds(t, opened(t, d), hard(5, 2))
	holds(t, crashed(t, d), hard(5, 2))
}

func TestCellsOfOneDiskAreApart(t *testing.T) {
	d := disk.New(roomy)
	names := []string{"a", "b", "ab", "aa", "aaaa"}
	cells := make(map[string]*cell.Cell)
	for i, name := range names {
		c, e := cell.Open(d, name)
		done(t, e)
		cells[name] = c
		done(t, c.Set(hard(uint64(i), uint64(i+1))))
	}
	done(t, cells["aa"].Set(hard(9, 9)))
	asked := map[string]api.Hard{"a": hard(0, 1), "b": hard(1, 2), "ab": hard(2, 3), "aa": hard(9, 9), "aaaa": hard(4, 5), "z": hard(0, 0)}
	for name, h := range asked {
		if c := cells[name]; c != nil {
			holds(t, c, h)
		}
	}
	d.Crash(nil, 0)
	for name, h := range asked {
		c, e := cell.Open(d, name)
		want(t, name, e, api.OK)
		holds(t, c, h)
	}
}

func TestCellsOfTwoDisksAreApart(t *testing.T) {
	one, d := begun(t, hard(5, 2))
	other, _ := begun(t, hard(6, 3))
	fell(t, d)
	want(t, "Set", one.Set(hard(7, 1)), api.ErrLost)
	want(t, "Set", other.Set(hard(8, 1)), api.OK)
	holds(t, one, hard(5, 2))
	holds(t, other, hard(8, 1))
}

// lay puts each of the others' files onto a disk, for sure.
func lay(t *testing.T, d *disk.Disk, files map[string]string) {
	t.Helper()
	for name, text := range files {
		done(t, d.Write(name, 0, []byte(text)))
	}
	done(t, d.Sync())
}

func TestOtherFilesAreLeftAsTheyAre(t *testing.T) {
	others := map[string]string{
		"cell": "a", "cel": "b", "cel.0": "c", "cells.0": "d", "xcell.0": "e", ".cell": "f", "0": "g", ".": "h", "cell0": "i", "c.ell.": "j", "cellx": "", "ell.k": "k", "new": "l", "now": "m",
	}
	d := disk.New(roomy)
	lay(t, d, others)
	c := opened(t, d)
	holds(t, c, hard(0, 0))
	for i := range uint64(4) {
		done(t, c.Set(hard(i, i+1)))
	}
	for fuse := range 5 {
		d.Fuse(fuse)
		c.Set(hard(9, 9))
		d.Crash(slices.Repeat([]bool{true}, d.Waiting()), 1)
		c = opened(t, d)
	}
	done(t, c.Set(hard(10, 10)))
	for name, text := range others {
		b, e := d.Read(name)
		if string(b) != text || e != api.OK {
			t.Errorf("%q: %q, %d", name, b, e)
		}
	}
	for _, name := range d.List() {
		if _, other := others[name]; !other && !strings.HasPrefix(name, "cell.") {
			t.Errorf("%q was made", name)
		}
	}
}

// tryAll calls all that a cell has; it is asked only that each call ends.
func tryAll(d *disk.Disk) {
	for i := range uint64(3) {
		c, e := cell.Open(d, "cell")
		if e != api.OK {
			return
		}
		c.Get()
		c.Set(hard(i, 1<<63))
		c.Set(hard(1<<40, i))
		c.Get()
	}
}

// copied answers a disk with the same files, all sure.
func copied(t *testing.T, d *disk.Disk) *disk.Disk {
	t.Helper()
	files := make(map[string]string)
	for _, name := range d.List() {
		b, _ := d.Read(name)
		files[name] = string(b)
	}
	same := disk.New(roomy)
	lay(t, same, files)
	return same
}

func TestOpenEndsWhateverOthersWrote(t *testing.T) {
	_, model := begun(t, hard(1<<50+7, 1<<20+3))
	for _, name := range model.List() {
		text, _ := model.Read(name)
		for i := range text {
			for _, turn := range []byte{1, 4, 128, 255} {
				d := copied(t, model)
				done(t, d.Write(name, i, []byte{text[i] ^ turn}))
				tryAll(d)
			}
			d := copied(t, model)
			done(t, d.Cut(name, i))
			tryAll(d)
		}
		d := copied(t, model)
		done(t, d.Write(name, len(text), []byte("more")))
		tryAll(d)
		d = copied(t, model)
		done(t, d.Remove(name))
		tryAll(d)
		for _, other := range append(model.List(), "cell.", "cell.0", "cell.1", "cell.new", "cell.zzzzzzzzzzz") {
			d := copied(t, model)
			done(t, d.Rename(name, other))
			tryAll(d)
			d = copied(t, model)
			done(t, d.Write(other, 0, append([]byte("\x09\x00"), text...)))
			tryAll(d)
			done(t, d.Write(other, 1<<20, []byte("far")))
			tryAll(d)
		}
	}
}

// P10.2: Get, Set

// edges answers the numbers around each power of 256, and the ends.
func edges() []uint64 {
	list := []uint64{0, 1, 2, 127, 128, api.MaxTerm - 1, api.MaxTerm, api.MaxTerm + 1}
	for shift := 8; shift < 64; shift += 8 {
		p := uint64(1) << shift
		list = append(list, p-1, p, p+1)
	}
	return append(list, math.MaxInt64, math.MaxInt64+1, math.MaxUint64-1, math.MaxUint64)
}

func TestSet(t *testing.T) {
	d := disk.New(roomy)
	c := opened(t, d)
	for _, term := range edges() {
		for _, vote := range edges() {
			h := hard(term, vote)
			want(t, "Set", c.Set(h), api.OK)
			holds(t, c, h)
			holds(t, opened(t, d), h)
			c = crashed(t, d)
			holds(t, c, h)
		}
	}
}

func TestSetIsSureWhateverIsKept(t *testing.T) {
	c, d := begun(t, hard(5, 2))
	for _, h := range []api.Hard{hard(6, 0), hard(6, 1), hard(6, 0), hard(1<<60, 7), hard(3, 3), hard(3, 3), hard(0, 0), hard(0, 1)} {
		want(t, "Set", c.Set(h), api.OK)
		d.Crash(someOf(rand.New(rand.NewSource(5)), d.Waiting()), 1)
		c = opened(t, d)
		holds(t, c, h)
	}
}

func TestALesserTermIsSetTheSame(t *testing.T) {
	c, d := begun(t, hard(1<<62, 7))
	for _, h := range []api.Hard{hard(1<<62, 6), hard(1<<61, 7), hard(1<<8, 9), hard(255, 1<<63), hard(1, 0), hard(0, 5), hard(0, 4), hard(0, 0)} {
		done(t, c.Set(h))
		holds(t, c, h)
		holds(t, opened(t, d), h)
		holds(t, crashed(t, d), h)
		c = opened(t, d)
	}
}

func TestTheSameOnceMore(t *testing.T) {
	c, d := begun(t, hard(5, 2))
	for range 3 {
		want(t, "Set", c.Set(hard(5, 2)), api.OK)
		holds(t, c, hard(5, 2))
		holds(t, opened(t, d), hard(5, 2))
	}
	holds(t, crashed(t, d), hard(5, 2))
}

func TestSetAgainAndAgainNeedsNoMoreRoom(t *testing.T) {
	d := disk.New(1 << 12)
	c := opened(t, d)
	for i := range uint64(3000) {
		h := hard(i*i*i*i*i, ^i)
		done(t, c.Set(h))
		switch i % 50 {
		case 20:
			c = crashed(t, d)
		case 40:
			d.Fuse(int(i / 50 % 6))
			if c.Set(hard(math.MaxUint64, i)) == api.OK {
				h = hard(math.MaxUint64, i)
			}
			c = crashed(t, d)
			if c.Get() == hard(math.MaxUint64, i) {
				h = hard(math.MaxUint64, i)
			}
		}
		holds(t, c, h)
	}
	if n := len(d.List()); n > 20 {
		t.Errorf("%d files", n)
	}
}

func TestSetWithoutRoom(t *testing.T) {
	d := disk.New(0)
	c := opened(t, d)
	for range 3 {
		want(t, "Set", c.Set(hard(5, 2)), api.ErrFull)
		holds(t, c, hard(0, 0))
		holds(t, opened(t, d), hard(0, 0))
	}
	d.Crash(slices.Repeat([]bool{true}, d.Waiting()), whole)
	c = opened(t, d)
	holds(t, c, hard(0, 0))
	d.Room(roomy)
	want(t, "Set", c.Set(hard(5, 2)), api.OK)
	holds(t, c, hard(5, 2))
	holds(t, crashed(t, d), hard(5, 2))
}

// full fails the test where a cell isn't as it was behind ErrFull: now, opened anew, and behind a crash.
func full(t *testing.T, c *cell.Cell, d *disk.Disk, keep []bool, h api.Hard) {
	t.Helper()
	holds(t, c, h)
	holds(t, opened(t, d), h)
	n := d.Waiting()
	d.Crash(keep[:min(n, len(keep))], whole)
	holds(t, opened(t, d), h)
}

func TestSetWithLittleRoom(t *testing.T) {
	for _, pair := range [][2]api.Hard{{hard(0, 0), hard(1, 1)}, {hard(5, 2), hard(6, 1)}, {hard(5, 2), hard(1<<60, 1<<61)}, {hard(1<<60, 1<<61), hard(5, 2)}} {
		old, h := pair[0], pair[1]
		_, model := begun(t, old)
		for more := -3; more < 300; more++ {
			for _, keep := range [][]bool{nil, {true}, {false, true}, {true, true, true, true, true, true}} {
				c, d := begun(t, old)
				d.Room(model.Used() + more)
				switch e := c.Set(h); e {
				case api.OK:
					holds(t, c, h)
					holds(t, crashed(t, d), h)
				case api.ErrFull:
					full(t, c, d, keep, old)
				default:
					t.Fatalf("%d bytes more: Set: %d", more, e)
				}
			}
		}
	}
}

func TestACellGoesOnBehindNoRoom(t *testing.T) {
	c, d := begun(t, hard(5, 2))
	h := hard(5, 2)
	for i := range uint64(20) {
		d.Room(0)
		other := hard(1<<60+i, i)
		switch e := c.Set(other); e {
		case api.OK:
			h = other
		case api.ErrFull:
		default:
			t.Fatalf("Set: %d", e)
		}
		holds(t, c, h)
		d.Room(roomy)
		if i%2 == 0 {
			h = hard(i, i+1)
			want(t, "Set", c.Set(h), api.OK)
		}
		holds(t, c, h)
		holds(t, opened(t, d), h)
	}
	holds(t, crashed(t, d), h)
}

// P10.3: a cell that is over

// isOver fails the test where a cell takes something still.
func isOver(t *testing.T, c *cell.Cell, has api.Hard) {
	t.Helper()
	for _, h := range []api.Hard{hard(0, 0), has, hard(9, 9), hard(math.MaxUint64, math.MaxUint64)} {
		want(t, "Set", c.Set(h), api.ErrLost)
		holds(t, c, has)
	}
}

func TestACellIsOverBehindErrLost(t *testing.T) {
	for fuse := 0; ; fuse++ {
		c, d := begun(t, hard(5, 2))
		d.Fuse(fuse)
		e := c.Set(hard(6, 1))
		if e == api.OK && fuse > 0 {
			holds(t, c, hard(6, 1))
			break
		}
		if e != api.ErrLost || fuse > 100 {
			t.Fatalf("fuse %d: %d", fuse, e)
		}
		isOver(t, c, hard(5, 2))
		d.Crash(nil, 0)
		isOver(t, c, hard(5, 2))
		if n := d.Waiting(); n > 0 {
			t.Errorf("fuse %d: a cell that is over did %d operations", fuse, n)
		}
		again := opened(t, d)
		done(t, again.Set(hard(7, 3)))
		isOver(t, c, hard(5, 2))
		d.Room(0)
		isOver(t, c, hard(5, 2)) // ErrLost is named ahead of ErrFull
		holds(t, opened(t, d), hard(7, 3))
		holds(t, crashed(t, d), hard(7, 3))
	}
}

func TestADiskThatIsDownEndsACell(t *testing.T) {
	c, d := begun(t, hard(5, 2))
	fell(t, d)
	holds(t, c, hard(5, 2))
	want(t, "Set", c.Set(hard(6, 1)), api.ErrLost)
	isOver(t, c, hard(5, 2))
	d.Crash(slices.Repeat([]bool{true}, d.Waiting()), whole)
	isOver(t, c, hard(5, 2))
	holds(t, opened(t, d), hard(5, 2))
}

func TestNoRoomIsSaidAheadOfALostOperation(t *testing.T) {
	d := disk.New(0)
	c := opened(t, d)
	d.Fuse(0)
	want(t, "Set", c.Set(hard(6, 1)), api.ErrFull)
	if d.Down() {
		t.Error("an operation was done")
	}
	d.Fuse(-1)
	d.Room(roomy)
	want(t, "Set", c.Set(hard(6, 1)), api.OK)
	holds(t, crashed(t, d), hard(6, 1))
}

// P10.5: a nil cell

func TestNilCell(t *testing.T) {
	var c *cell.Cell
	for range 2 {
		holds(t, c, hard(0, 0))
		isOver(t, c, hard(0, 0))
	}
}
