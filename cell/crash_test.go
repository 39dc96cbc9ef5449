package cell_test

import (
	"fmt"
	"math"
	"math/rand"
	"slices"
	"testing"

	"tabellion/api"
	"tabellion/cell"
	"tabellion/disk"
)

// P10.4: what a cell has behind a crash

// scene is a cell on a disk, and what may be there behind a crash: what it has or, behind a Set that was lost, that too.
type scene struct {
	d         *disk.Disk
	c         *cell.Cell
	has, lost api.Hard
}

// begin answers a scene on an empty disk.
func begin(t *testing.T, room int) *scene {
	t.Helper()
	d := disk.New(room)
	return &scene{d: d, c: opened(t, d)}
}

// set it, and keep in mind what may be there then.
func (s *scene) set(h api.Hard) api.Errno {
	e := s.c.Set(h)
	switch e {
	case api.OK:
		s.has, s.lost = h, h
	case api.ErrLost:
		s.lost = h
	}
	return e
}

// play sets a cell to one behind the other till the fuse cuts it; it answers whether that happened.
func (s *scene) play(t *testing.T, list []api.Hard, fuse int) bool {
	t.Helper()
	s.d.Fuse(fuse)
	for i, h := range list {
		switch e := s.set(h); e {
		case api.OK:
		case api.ErrLost:
			return true
		default:
			t.Fatalf("Set %d: %d", i, e)
		}
	}
	s.d.Fuse(-1)
	return false
}

// adopt takes a cell that was opened behind a crash, if it has what may be there.
func (s *scene) adopt(t *testing.T, what string, c *cell.Cell) {
	t.Helper()
	got := c.Get()
	if got != s.has && got != s.lost {
		t.Fatalf("%s: %v, not %v or %v", what, got, s.has, s.lost)
	}
	s.c, s.has, s.lost = c, got, got
}

// crash the disk, open the cell, and hold it against what may be there.
func (s *scene) crash(t *testing.T, what string, keep []bool, torn int) {
	t.Helper()
	s.d.Crash(keep, torn)
	s.adopt(t, what, opened(t, s.d))
}

// goOn sets the cell behind a crash once more, which must be sure then.
func (s *scene) goOn(t *testing.T, what string) {
	t.Helper()
	s.crash(t, what+", one more crash", nil, 0)
	done(t, s.set(hard(2, 1)))
	s.crash(t, what+", set again", nil, 0)
	s.crash(t, what+", set again and another crash", nil, 0)
}

// masks are all ways to keep some of so many operations; some of them, if they are many.
func masks(source *rand.Rand, n int) [][]bool {
	var list [][]bool
	if n > 8 {
		for range 200 {
			list = append(list, someOf(source, n))
		}
		return append(list, nil, slices.Repeat([]bool{true}, n))
	}
	for bits := range 1 << n {
		keep := make([]bool, n)
		for i := range keep {
			keep[i] = bits>>i&1 == 1
		}
		list = append(list, keep)
	}
	return list
}

// someOf keeps operations by chance.
func someOf(source *rand.Rand, n int) []bool {
	keep := make([]bool, n)
	often := 1 + source.Intn(4)
	for i := range keep {
		keep[i] = source.Intn(5) < often
	}
	return keep
}

// scripts of what a cell is set to: of two that follow one another no part of one with the rest of the other is either.
func scripts() [][]api.Hard {
	far := hard(math.MaxUint64, math.MaxUint64-1)
	return [][]api.Hard{
		{hard(5, 2)},
		{hard(5, 2), hard(6, 1)},
		{hard(6, 1), hard(5, 2), hard(7, 3)},
		{hard(0x0102, 0x0304), hard(0x0506, 0x0708), hard(0x0901, 0x0a02)},
		{hard(5, 2), far, hard(6, 1), far},
		{far, hard(0, 0), hard(0, 1), hard(1, 0)},
		{hard(5, 2), hard(5, 2), hard(5, 3), hard(5, 2)},
		{hard(1<<40, 7), hard(7, 1<<40), hard(1<<40+1, 1<<40+1)},
		{far, hard(5, 2), hard(0, 0), hard(5, 2), far},
	}
}

func TestWhateverACrashKeeps(t *testing.T) {
	source := rand.New(rand.NewSource(10))
	for i, list := range scripts() {
		for fuse, cut := 0, true; cut; fuse++ {
			s := begin(t, roomy)
			cut = s.play(t, list, fuse)
			for _, keep := range masks(source, s.d.Waiting()) {
				for torn := -1; torn < 60; torn++ {
					again := begin(t, roomy)
					again.play(t, list, fuse)
					what := fmt.Sprintf("script %d, fuse %d, keep %v, torn %d", i, fuse, keep, torn)
					again.crash(t, what, keep, torn)
					again.goOn(t, what)
				}
			}
			if fuse > 1000 {
				t.Fatalf("script %d doesn't end", i)
			}
		}
	}
}

// wreck is how a Set was cut, and what the crash behind it kept.
type wreck struct {
	fuse int
	keep []bool
	torn int
}

// wrecks answers all ways in which a Set may be cut and kept in part behind what was done already; the last one isn't cut.
func wrecks(t *testing.T, h api.Hard, ready func() *scene) []wreck {
	t.Helper()
	var list []wreck
	source := rand.New(rand.NewSource(11))
	for fuse, cut := 0, true; cut; fuse++ {
		s := ready()
		cut = s.play(t, []api.Hard{h}, fuse)
		for _, keep := range masks(source, s.d.Waiting()) {
			for _, torn := range []int{0, 1, 2, 3, 5, 9, whole} {
				list = append(list, wreck{fuse, keep, torn})
			}
		}
		if fuse > 1000 {
			t.Fatal("Set doesn't end")
		}
	}
	return list
}

// suffer a wreck.
func (s *scene) suffer(t *testing.T, what string, h api.Hard, w wreck) {
	t.Helper()
	s.play(t, []api.Hard{h}, w.fuse)
	s.crash(t, what, w.keep, w.torn)
}

func TestACrashBehindACrash(t *testing.T) {
	for _, list := range [][3]api.Hard{
		{hard(5, 2), hard(6, 1), hard(7, 3)},
		{hard(5, 2), hard(1<<60+5, 1<<61+6), hard(7, 3)},
		{hard(1<<60+5, 1<<61+6), hard(0x0102, 0x0304), hard(1<<50+7, 1<<10+8)},
	} {
		begunWith := func() *scene {
			s := begin(t, roomy)
			done(t, s.set(list[0]))
			return s
		}
		for _, one := range wrecks(t, list[1], begunWith) {
			wrecked := func() *scene {
				s := begunWith()
				s.suffer(t, fmt.Sprint(one), list[1], one)
				return s
			}
			for _, other := range wrecks(t, list[2], wrecked) {
				what := fmt.Sprint(one, other)
				s := wrecked()
				s.suffer(t, what, list[2], other)
				s.goOn(t, what)
			}
		}
	}
}

func TestACrashBehindTheFirstSets(t *testing.T) {
	fresh := func() *scene { return begin(t, roomy) }
	for _, one := range wrecks(t, hard(1<<60+5, 1<<61+6), fresh) {
		wrecked := func() *scene {
			s := fresh()
			s.suffer(t, fmt.Sprint(one), hard(1<<60+5, 1<<61+6), one)
			return s
		}
		for _, other := range wrecks(t, hard(7, 3), wrecked) {
			what := fmt.Sprint(one, other)
			s := wrecked()
			s.suffer(t, what, hard(7, 3), other)
			s.goOn(t, what)
		}
	}
}

// reopen the cell behind a crash, which may cut Open too, again and again.
func (s *scene) reopen(t *testing.T, source *rand.Rand, what string) {
	t.Helper()
	for open := 0; ; open++ {
		s.d.Crash(someOf(source, s.d.Waiting()), source.Intn(14)-1)
		s.d.Fuse(open)
		c, e := cell.Open(s.d, "cell")
		if e == api.OK {
			s.d.Fuse(-1)
			s.adopt(t, what, c)
			return
		}
		if c != nil || e != api.ErrLost || open > 1000 {
			t.Fatalf("%s, fuse of Open %d: %v, %d", what, open, c, e)
		}
	}
}

func TestACrashWhileTheCellIsOpened(t *testing.T) {
	source := rand.New(rand.NewSource(12))
	for i, list := range scripts() {
		for fuse, cut := 0, true; cut; fuse++ {
			for range 30 {
				s := begin(t, roomy)
				cut = s.play(t, list, fuse)
				what := fmt.Sprintf("script %d, fuse %d", i, fuse)
				s.reopen(t, source, what)
				s.crash(t, what, someOf(source, s.d.Waiting()), source.Intn(9))
				s.goOn(t, what)
			}
		}
	}
}

func TestWhatOthersLeaveWaitingIsNothingToACell(t *testing.T) {
	source := rand.New(rand.NewSource(13))
	for fuse := 0; ; fuse++ {
		cut := false
		for range 200 {
			s := begin(t, roomy)
			done(t, s.set(hard(5, 2)))
			for i := range source.Intn(4) {
				done(t, s.d.Write("other", 3*i, []byte("others")))
			}
			cut = s.play(t, []api.Hard{hard(6, 1)}, fuse)
			if !cut {
				done(t, s.d.Write("other.new", 0, []byte("others")))
				done(t, s.d.Rename("other.new", "other"))
			}
			what := fmt.Sprintf("fuse %d", fuse)
			s.crash(t, what, someOf(source, s.d.Waiting()), source.Intn(9))
			s.goOn(t, what)
		}
		if !cut {
			return
		}
	}
}

// anyHard answers a term and a vote by chance.
func anyHard(source *rand.Rand) api.Hard {
	return hard(source.Uint64()>>source.Intn(65), source.Uint64()>>source.Intn(65))
}

func TestByTheHistory(t *testing.T) {
	for seed := range 600 {
		source := rand.New(rand.NewSource(int64(seed)))
		s := begin(t, roomy)
		for i := range 120 {
			what := fmt.Sprintf("seed %d, step %d", seed, i)
			if source.Intn(4) == 0 {
				s.d.Fuse(source.Intn(7))
			}
			if seed%4 == 0 {
				s.d.Room(source.Intn(90))
			}
			has := s.has
			switch e := s.set(anyHard(source)); {
			case e == api.OK:
			case e == api.ErrFull && seed%4 == 0:
				holds(t, s.c, has)
			case e == api.ErrLost && s.d.Down():
				isOver(t, s.c, has)
				s.reopen(t, source, what)
			default:
				t.Fatalf("%s: %d", what, e)
			}
			holds(t, s.c, s.has)
			if source.Intn(10) == 0 {
				s.reopen(t, source, what)
			}
			if t.Failed() {
				t.Fatal(what)
			}
		}
	}
}

func TestTheSameAnswersToTheSameScript(t *testing.T) {
	for i, list := range scripts() {
		for fuse := range 30 {
			one, other := begin(t, roomy), begin(t, roomy)
			if one.play(t, list, fuse) != other.play(t, list, fuse) || one.c.Get() != other.c.Get() || one.d.Waiting() != other.d.Waiting() {
				t.Errorf("script %d, fuse %d", i, fuse)
			}
			one.d.Crash([]bool{true, false, true}, 3)
			other.d.Crash([]bool{true, false, true}, 3)
			if opened(t, one.d).Get() != opened(t, other.d).Get() {
				t.Errorf("script %d, fuse %d, behind a crash", i, fuse)
			}
		}
	}
}
