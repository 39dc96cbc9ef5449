package store_test

import (
	"fmt"
	"math/rand"
	"slices"
	"strings"
	"testing"

	"tabellion/api"
	"tabellion/disk"
	"tabellion/store"
)

// P13.5: what is there behind a crash

// step of a script: a Save, or, if it has a base, a Snap.
type step struct {
	hard       api.Hard
	from       uint64
	list       []api.Entry
	base, term uint64
	first      []uint64
	image      string
}

// scene is a store on a disk, what it has, and what else may be there behind a call that was lost.
type scene struct {
	d   *disk.Disk
	s   *store.Store
	has state
	may []state
}

// begin answers a scene on an empty disk.
func begin(t *testing.T) *scene {
	t.Helper()
	d := disk.New(roomy)
	return &scene{d: d, s: opened(t, d)}
}

// madeOf answers what a state is to be behind a step.
func madeOf(x state, p step) state {
	if p.base > 0 {
		return x.snapped(p.base, p.term, p.first, p.image)
	}
	return x.saved(p.hard, p.from, p.list...)
}

// halfMadeOf answers what may be there of a state behind a step that was lost.
func halfMadeOf(x state, p step) []state {
	if p.base > 0 {
		return []state{x, madeOf(x, p)}
	}
	list := []state{x}
	for gone := x.last() + 1; gone > p.from; gone-- {
		list = append(list, x.saved(p.hard, gone))
	}
	for n := range len(p.list) + 1 {
		list = append(list, x.saved(p.hard, p.from, p.list[:n]...))
	}
	return list
}

// do a step; the answer is the store's.
func (c *scene) do(p step) api.Errno {
	var e api.Errno
	if p.base > 0 {
		e = c.s.Snap(p.base, p.term, p.first, []byte(p.image))
	} else {
		e = c.s.Save(p.hard, p.from, p.list)
	}
	switch e {
	case api.OK:
		c.has, c.may = madeOf(c.has, p), nil
	case api.ErrLost, api.ErrFull:
		c.may = halfMadeOf(c.has, p)
	}
	return e
}

// play a script till the fuse cuts it; it answers whether that happened.
func play(t *testing.T, script []step, fuse int) (*scene, bool) {
	t.Helper()
	c := begin(t)
	c.d.Fuse(fuse)
	for i, p := range script {
		switch e := c.do(p); e {
		case api.OK:
		case api.ErrLost:
			return c, true
		default:
			t.Fatalf("step %d: %d", i, e)
		}
	}
	c.d.Fuse(-1)
	return c, false
}

// adopt takes a store that was opened, if it has what may be there.
func (c *scene) adopt(t *testing.T, what string, s *store.Store) {
	t.Helper()
	got := in(s)
	text := got.text()
	isOne := func(x state) bool { return len(x.list) == len(got.list) && x.text() == text }
	if !isOne(c.has) && !slices.ContainsFunc(c.may, isOne) {
		t.Fatalf("%s: %s\nwas %s", what, short(text), short(c.has.text()))
	}
	c.s, c.has, c.may = s, got, nil
}

// crash the disk, open the store, and hold it against what may be there.
func (c *scene) crash(t *testing.T, what string, keep []bool, torn int) {
	t.Helper()
	c.d.Crash(keep, torn)
	c.adopt(t, what, opened(t, c.d))
}

// goOn calls a store that was opened behind a crash, and holds what that makes, which must be sure then.
func (c *scene) goOn(t *testing.T, what string) {
	t.Helper()
	c.crash(t, what+", one more crash", nil, 0)
	list := puts(20, "new", "newer", "newest")
	for _, p := range []step{
		{hard: api.Hard{Term: 20}, from: c.has.last() + 1, list: list},
		{base: c.has.last() + 2, term: 20, first: []uint64{4}, image: "new image"},
		{hard: api.Hard{Term: 21}, from: c.has.last() + 3, list: list[:2]},
	} {
		done(t, c.do(p))
		holds(t, c.s, c.has)
		c.crash(t, what+", and then", nil, 0)
	}
}

// masks are ways to keep some of so many operations: all ways, if they are few, else some, the extreme ones among them.
func masks(source *rand.Rand, n int) [][]bool {
	var list [][]bool
	if n <= 5 {
		for bits := range 1 << n {
			keep := make([]bool, n)
			for i := range keep {
				keep[i] = bits>>i&1 == 1
			}
			list = append(list, keep)
		}
		return list
	}
	for i := range n {
		one, allBut := make([]bool, n), slices.Repeat([]bool{true}, n)
		one[i], allBut[i] = true, false
		list = append(list, one, allBut, slices.Repeat([]bool{true}, i))
	}
	for range 8 {
		list = append(list, someOf(source, n))
	}
	return append(list, slices.Repeat([]bool{true}, n))
}

// someOf keeps operations by chance.
func someOf(source *rand.Rand, n int) []bool {
	keep := make([]bool, n)
	often := 1 + source.Intn(4)
	for i := range keep {
		keep[i] = source.Intn(5) < often
	}
	return keep
}

// save and snap answer steps.
func save(term, vote, from uint64, datas ...string) step {
	return step{hard: api.Hard{Term: term, Vote: vote}, from: from, list: puts(term, datas...)}
}

func snap(base, term uint64, image string) step {
	return step{base: base, term: term, first: []uint64{1, base%6 + 2}, image: image}
}

// scripts whose every beginning is cut and kept in part.
func scripts() map[string][]step {
	long := strings.Repeat("x", 300)
	return map[string][]step{
		"hard state":               {save(1, 1, 1), save(2, 0, 1), save(2, 3, 1), save(300, 7, 1)},
		"entries":                  {save(1, 1, 1, "a"), save(1, 1, 2, "b", "c"), save(1, 2, 4, "d", "e", "f")},
		"empty ones":               {save(1, 1, 1, "", ""), save(2, 1, 3, "", "", ""), save(3, 0, 2, "")},
		"others in their place":    {save(1, 1, 1, "a", "b", "c", "d"), save(2, 0, 2, "e", "f"), save(3, 1, 1, "g"), save(4, 0, 2, "h", "i", "j")},
		"the same in their place":  {save(1, 1, 1, "a", "b", "c"), save(1, 2, 1, "a", "b", "c"), save(1, 3, 2, "b", "c")},
		"entries that go":          {save(1, 1, 1, "a", "b", "c", "d", "e"), save(2, 0, 4), save(3, 0, 1), save(4, 0, 1, "f")},
		"an image of all":          {save(1, 1, 1, "a", "b", "c"), snap(3, 1, "abc"), save(2, 0, 4, "d", "e"), snap(5, 2, "abcde")},
		"an image of some":         {save(1, 1, 1, "a", "b", "c", "d"), snap(2, 1, "ab"), save(2, 1, 4, "e", "f"), snap(3, 1, "abc"), save(3, 1, 5, "g")},
		"an image of other ones":   {save(1, 1, 1, "a", "b", "c", "d"), snap(2, 5, "xy"), save(6, 1, 3, "e", "f"), snap(3, 1, "xyz")},
		"an image of what is far":  {save(1, 1, 1, "a", "b"), snap(90, 5, "far"), save(6, 1, 91, "e", "f"), snap(92, 6, "further"), snap(1<<40, 7, ""), save(8, 0, 1<<40+1, "g")},
		"images alone":             {snap(1, 0, "one"), snap(2, 0, "two"), snap(3, 9, ""), snap(4, 1, long), snap(5, 1, "short")},
		"an image, others behind":  {save(1, 1, 1, "a", "b", "c", "d", "e"), snap(3, 1, "abc"), save(2, 0, 4, "x"), save(3, 0, 5, "y", "z"), snap(4, 2, "abcx")},
		"the log as it was before": {save(1, 1, 1, "a", "b"), snap(9, 1, "nine"), save(1, 1, 10, "a", "b"), snap(20, 2, "twenty"), save(1, 1, 21, "a", "b")},
	}
}

func TestWhateverACrashKeeps(t *testing.T) {
	source := rand.New(rand.NewSource(13))
	for name, script := range scripts() {
		for fuse, cut := 0, true; cut; fuse++ {
			var c *scene
			c, cut = play(t, script, fuse)
			for _, keep := range masks(source, c.d.Waiting()) {
				for _, torn := range []int{0, 1, 9, whole} {
					again, _ := play(t, script, fuse)
					what := fmt.Sprintf("%s, fuse %d, keep %v, torn %d", name, fuse, keep, torn)
					holds(t, again.s, again.has)
					again.crash(t, what, keep, torn)
					again.goOn(t, what)
				}
			}
			if fuse > 1000 {
				t.Fatalf("%s doesn't end", name)
			}
		}
	}
}

func TestEveryBeginningOfALastWrite(t *testing.T) {
	for name, script := range scripts() {
		for fuse, cut := 0, true; cut; fuse++ {
			_, cut = play(t, script, fuse)
			for torn := range 40 {
				c, _ := play(t, script, fuse)
				what := fmt.Sprintf("%s, fuse %d, torn %d", name, fuse, torn)
				c.crash(t, what, slices.Repeat([]bool{true}, c.d.Waiting()), torn)
				c.goOn(t, what)
			}
		}
	}
}

// reopen the store behind a crash, which may cut Open too, again and again.
func (c *scene) reopen(t *testing.T, source *rand.Rand, what string) {
	t.Helper()
	for open := 0; ; open++ {
		c.d.Crash(someOf(source, c.d.Waiting()), source.Intn(14)-1)
		c.d.Fuse(open)
		s, e := store.Open(c.d)
		if e == api.OK {
			c.d.Fuse(-1)
			c.adopt(t, what, s)
			return
		}
		if s != nil || e != api.ErrLost || open > 1000 {
			t.Fatalf("%s, fuse of Open %d: %v, %d", what, open, s, e)
		}
	}
}

func TestACrashWhileTheStoreIsOpened(t *testing.T) {
	source := rand.New(rand.NewSource(113))
	for name, script := range scripts() {
		for fuse, cut := 0, true; cut; fuse++ {
			for range 12 {
				var c *scene
				c, cut = play(t, script, fuse)
				what := fmt.Sprintf("%s, fuse %d", name, fuse)
				c.reopen(t, source, what)
				c.crash(t, what, someOf(source, c.d.Waiting()), source.Intn(9))
				c.goOn(t, what)
			}
		}
	}
}

// follow is a step that may come behind anything; it is one of two kinds.
func follow(x state, kind int) step {
	if kind == 0 {
		return step{hard: api.Hard{Term: 10, Vote: 1}, from: x.base + 1, list: puts(10, "v", "w")}
	}
	return step{base: x.base + 2, term: 1, first: []uint64{5}, image: "next"}
}

func TestACrashBehindACrash(t *testing.T) {
	source := rand.New(rand.NewSource(213))
	for name, script := range scripts() {
		for fuse, cut := 0, true; cut; fuse++ {
			for kind := range 2 {
				for again := 0; ; again++ {
					var c *scene
					c, cut = play(t, script, fuse)
					what := fmt.Sprintf("%s, fuse %d, fuse of the next one %d", name, fuse, again)
					c.crash(t, what, someOf(source, c.d.Waiting()), source.Intn(14))
					c.d.Fuse(again)
					e := c.do(follow(c.has, kind))
					c.crash(t, what, someOf(source, c.d.Waiting()), source.Intn(14))
					c.goOn(t, what)
					if e == api.OK {
						break
					}
				}
			}
		}
	}
}

func TestOpenedAnewBehindNoRoom(t *testing.T) {
	source := rand.New(rand.NewSource(313))
	for name, script := range scripts() {
		for room, full := 0, true; full; room += 1 + room/40 {
			for _, wreck := range []bool{false, true} {
				c := begin(t)
				full = false
				for _, p := range script {
					used := c.d.Used()
					c.d.Room(room)
					e := c.do(p)
					c.d.Room(roomy)
					if e == api.ErrFull {
						full = true
						break
					}
					if e != api.OK {
						t.Fatalf("%s, room %d (%d used): %d", name, room, used, e)
					}
				}
				what := fmt.Sprintf("%s, room %d, crash %v", name, room, wreck)
				holds(t, c.s, c.has)
				if wreck {
					c.d.Crash(someOf(source, c.d.Waiting()), source.Intn(14))
				}
				c.d.Room(room)
				c.adopt(t, what, opened(t, c.d))
				c.d.Room(roomy)
				c.goOn(t, what)
			}
			if room > 1<<20 {
				t.Fatalf("%s needs more than %d bytes", name, room)
			}
		}
	}
}

func TestGreatOnesWhateverACrashKeeps(t *testing.T) {
	source := rand.New(rand.NewSource(413))
	script := []step{
		{hard: api.Hard{Term: 12}, from: 1, list: many(api.MaxRows)},
		{base: 600, term: 6, first: []uint64{1, 2, 3, 4, 5, 6, 7}, image: strings.Repeat("x", api.MaxImage)},
		{hard: api.Hard{Term: 13}, from: 700, list: many(api.MaxRows - 99)},
		{base: 5000, term: 6, first: []uint64{7}, image: strings.Repeat("y", api.MaxImage)},
	}
	for i := range script {
		full, _ := play(t, script[:i+1], roomy)
		for range 25 {
			c, _ := play(t, script[:i], roomy)
			c.d.Fuse(source.Intn(30))
			if source.Intn(2) == 0 {
				c.d.Fuse(source.Intn(2500))
			}
			c.do(script[i])
			n := c.d.Waiting()
			keep := slices.Repeat([]bool{true}, n)
			for i := range keep {
				keep[i] = source.Intn(300) > 0
			}
			what := fmt.Sprintf("step %d", i)
			c.crash(t, what, keep, source.Intn(100))
			c.crash(t, what, nil, 0)
		}
		isSure(t, full.s, full.d, full.has)
	}
}

// anyStep answers a step by chance that a store with this takes.
func anyStep(source *rand.Rand, x state) step {
	index := x.base + 1 + uint64(source.Intn(len(x.list)+1))
	if source.Intn(4) > 0 {
		p := step{hard: api.Hard{Term: source.Uint64() >> source.Intn(64), Vote: uint64(source.Intn(8))}, from: index}
		if source.Intn(2) == 0 {
			p.from = x.last() + 1
		}
		for range source.Intn(6) {
			p.list = append(p.list, put(uint64(1+source.Intn(3)), 1, source.Uint64(), strings.Repeat("d", source.Intn(20))))
		}
		return p
	}
	p := step{base: index, term: uint64(source.Intn(4)), first: []uint64{uint64(1 + source.Intn(7))}, image: strings.Repeat("i", source.Intn(99))}
	if index <= x.last() && source.Intn(3) > 0 {
		p.term = x.list[index-x.base-1].Term
	}
	if source.Intn(8) == 0 {
		p.base += uint64(source.Intn(50))
	}
	return p
}

func TestByTheHistory(t *testing.T) {
	for seed := range 240 {
		source := rand.New(rand.NewSource(int64(seed)))
		c := begin(t)
		for i := range 80 {
			what := fmt.Sprintf("seed %d, step %d", seed, i)
			if source.Intn(4) == 0 {
				c.d.Fuse(source.Intn(25))
			}
			if seed%4 == 0 {
				c.d.Room(source.Intn(1500))
			}
			has := c.has
			switch e := c.do(anyStep(source, c.has)); {
			case e == api.OK:
			case e == api.ErrFull && seed%4 == 0 && source.Intn(2) == 0:
				isOver(t, c.s, has)
				c.d.Fuse(-1)
				c.adopt(t, what, opened(t, c.d))
			case e == api.ErrFull && seed%4 == 0, e == api.ErrLost && c.d.Down():
				isOver(t, c.s, has)
				c.reopen(t, source, what)
			default:
				t.Fatalf("%s: %d", what, e)
			}
			holds(t, c.s, c.has)
			if source.Intn(10) == 0 {
				c.reopen(t, source, what)
			}
			if t.Failed() {
				t.Fatal(what)
			}
		}
	}
}

func TestTheSameAnswersToTheSameScript(t *testing.T) {
	for name, script := range scripts() {
		for fuse := range 60 {
			one, cut := play(t, script, fuse)
			other, also := play(t, script, fuse)
			if cut != also || in(one.s).text() != in(other.s).text() || files(one.d) != files(other.d) {
				t.Errorf("%s, fuse %d", name, fuse)
			}
			one.d.Crash([]bool{true, false, true}, 3)
			other.d.Crash([]bool{true, false, true}, 3)
			if in(opened(t, one.d)).text() != in(opened(t, other.d)).text() {
				t.Errorf("%s, fuse %d, behind a crash", name, fuse)
			}
		}
	}
}
