package vault_test

import (
	"fmt"
	"math/rand"
	"slices"
	"strings"
	"testing"

	"tabellion/api"
	"tabellion/disk"
	"tabellion/vault"
)

// P11.4: what a vault has behind a crash

// scene is a vault on a disk, and what may be there behind a crash: what it has or, behind a Put that was lost, that too.
type scene struct {
	d         *disk.Disk
	v         *vault.Vault
	has, lost held
}

// begin answers a scene on an empty disk.
func begin(t *testing.T) *scene {
	t.Helper()
	d := disk.New(roomy)
	return &scene{d: d, v: opened(t, d)}
}

// put a text, and keep in mind what may be there then.
func (s *scene) put(text string) api.Errno {
	e := put(s.v, text)
	switch e {
	case api.OK:
		s.has, s.lost = a(text), a(text)
	case api.ErrLost:
		s.lost = a(text)
	}
	return e
}

// play puts one text behind the other till the fuse cuts it; it answers whether that happened.
func (s *scene) play(t *testing.T, list []string, fuse int) bool {
	t.Helper()
	s.d.Fuse(fuse)
	for i, text := range list {
		switch e := s.put(text); e {
		case api.OK:
		case api.ErrLost:
			return true
		default:
			t.Fatalf("Put %d: %d", i, e)
		}
	}
	s.d.Fuse(-1)
	return false
}

// adopt takes a vault that was opened behind a crash, if it has what may be there.
func (s *scene) adopt(t *testing.T, what string, v *vault.Vault) {
	t.Helper()
	got := in(t, v)
	if got != s.has && got != s.lost {
		t.Fatalf("%s: %s, not %s or %s", what, got.short(), s.has.short(), s.lost.short())
	}
	s.v, s.has, s.lost = v, got, got
}

// crash the disk, open the vault, and hold it against what may be there.
func (s *scene) crash(t *testing.T, what string, keep []bool, torn int) {
	t.Helper()
	s.d.Crash(keep, torn)
	s.adopt(t, what, opened(t, s.d))
}

// goOn puts a text behind a crash, which must be sure then.
func (s *scene) goOn(t *testing.T, what string) {
	t.Helper()
	s.crash(t, what+", one more crash", nil, 0)
	done(t, s.put("on"))
	s.crash(t, what+", put again", nil, 0)
	s.crash(t, what+", put again and another crash", nil, 0)
}

// masks are all ways to keep some of so many operations; some of them, if they are many.
func masks(source *rand.Rand, n int) [][]bool {
	var list [][]bool
	if n > 8 {
		for range 200 {
			list = append(list, someOf(source, n))
		}
		return append(list, nil, slices.Repeat([]bool{true}, n))
	}
	for bits := range 1 << n {
		keep := make([]bool, n)
		for i := range keep {
			keep[i] = bits>>i&1 == 1
		}
		list = append(list, keep)
	}
	return list
}

// someOf keeps operations by chance.
func someOf(source *rand.Rand, n int) []bool {
	keep := make([]bool, n)
	often := 1 + source.Intn(4)
	for i := range keep {
		keep[i] = source.Intn(5) < often
	}
	return keep
}

// scripts of texts that are put: of two that follow one another no part of one with the rest of the other is either.
func scripts() [][]string {
	return [][]string{
		{""},
		{"one"},
		{"one", "two"},
		{"", "one", ""},
		{"one", "two", "three", "four"},
		{"a long one", "two", "a third one", ""},
		{"same", "same", "sane", "same"},
		{"ab", "cd", "abcdef", "gh", "abcdef"},
		{"\x00\x00\x00", "\x00", "\x00\x00", "\x00\x00\x00\x00"},
	}
}

func TestWhateverACrashKeeps(t *testing.T) {
	source := rand.New(rand.NewSource(10))
	for i, list := range scripts() {
		for fuse, cut := 0, true; cut; fuse++ {
			s := begin(t)
			cut = s.play(t, list, fuse)
			for _, keep := range masks(source, s.d.Waiting()) {
				for torn := -1; torn < 15; torn++ {
					again := begin(t)
					again.play(t, list, fuse)
					what := fmt.Sprintf("script %d, fuse %d, keep %v, torn %d", i, fuse, keep, torn)
					again.crash(t, what, keep, torn)
					again.goOn(t, what)
				}
			}
			if fuse > 1000 {
				t.Fatalf("script %d doesn't end", i)
			}
		}
	}
}

func TestGreatTextsWhateverACrashKeeps(t *testing.T) {
	source := rand.New(rand.NewSource(14))
	list := []string{strings.Repeat("x", most), strings.Repeat("y", most), strings.Repeat("z", most-1), "", strings.Repeat("x", api.MaxImage)}
	for fuse, cut := 0, true; cut; fuse++ {
		s := begin(t)
		cut = s.play(t, list, fuse)
		for _, keep := range masks(source, s.d.Waiting()) {
			for _, torn := range []int{0, 1, api.MaxImage, most - 1, whole} {
				again := begin(t)
				again.play(t, list, fuse)
				what := fmt.Sprintf("fuse %d, keep %v, torn %d", fuse, keep, torn)
				again.crash(t, what, keep, torn)
				again.goOn(t, what)
			}
		}
	}
}

// wreck is how a Put was cut, and what the crash behind it kept.
type wreck struct {
	fuse int
	keep []bool
	torn int
}

// wrecks answers all ways in which a Put may be cut and kept in part behind what was done already; the last one isn't cut.
func wrecks(t *testing.T, text string, ready func() *scene) []wreck {
	t.Helper()
	var list []wreck
	source := rand.New(rand.NewSource(11))
	for fuse, cut := 0, true; cut; fuse++ {
		s := ready()
		cut = s.play(t, []string{text}, fuse)
		for _, keep := range masks(source, s.d.Waiting()) {
			for _, torn := range []int{0, 1, 2, 3, 5, 9, whole} {
				list = append(list, wreck{fuse, keep, torn})
			}
		}
		if fuse > 1000 {
			t.Fatal("Put doesn't end")
		}
	}
	return list
}

// suffer a wreck.
func (s *scene) suffer(t *testing.T, what string, text string, w wreck) {
	t.Helper()
	s.play(t, []string{text}, w.fuse)
	s.crash(t, what, w.keep, w.torn)
}

func TestACrashBehindACrash(t *testing.T) {
	for _, list := range [][3]string{
		{"one", "two", "six"},
		{"one", "a long text", "two"},
		{"a long text", "two", "another text"},
		{"one", "", "two"},
		{"", "one", ""},
	} {
		begunWith := func() *scene {
			s := begin(t)
			done(t, s.put(list[0]))
			return s
		}
		for _, one := range wrecks(t, list[1], begunWith) {
			wrecked := func() *scene {
				s := begunWith()
				s.suffer(t, fmt.Sprint(one), list[1], one)
				return s
			}
			for _, other := range wrecks(t, list[2], wrecked) {
				what := fmt.Sprint(one, other)
				s := wrecked()
				s.suffer(t, what, list[2], other)
				s.goOn(t, what)
			}
		}
	}
}

func TestACrashBehindTheFirstPuts(t *testing.T) {
	fresh := func() *scene { return begin(t) }
	for _, one := range wrecks(t, "a long text", fresh) {
		wrecked := func() *scene {
			s := fresh()
			s.suffer(t, fmt.Sprint(one), "a long text", one)
			return s
		}
		for _, other := range wrecks(t, "two", wrecked) {
			what := fmt.Sprint(one, other)
			s := wrecked()
			s.suffer(t, what, "two", other)
			s.goOn(t, what)
		}
	}
}

// reopen the vault behind a crash, which may cut Open too, again and again.
func (s *scene) reopen(t *testing.T, source *rand.Rand, what string) {
	t.Helper()
	for open := 0; ; open++ {
		s.d.Crash(someOf(source, s.d.Waiting()), source.Intn(14)-1)
		s.d.Fuse(open)
		v, e := vault.Open(s.d, "snap")
		if e == api.OK {
			s.d.Fuse(-1)
			s.adopt(t, what, v)
			return
		}
		if v != nil || e != api.ErrLost || open > 1000 {
			t.Fatalf("%s, fuse of Open %d: %v, %d", what, open, v, e)
		}
	}
}

func TestACrashWhileTheVaultIsOpened(t *testing.T) {
	source := rand.New(rand.NewSource(12))
	for i, list := range scripts() {
		for fuse, cut := 0, true; cut; fuse++ {
			for range 30 {
				s := begin(t)
				cut = s.play(t, list, fuse)
				what := fmt.Sprintf("script %d, fuse %d", i, fuse)
				s.reopen(t, source, what)
				s.crash(t, what, someOf(source, s.d.Waiting()), source.Intn(9))
				s.goOn(t, what)
			}
		}
	}
}

func TestWhatOthersLeaveWaitingIsNothingToAVault(t *testing.T) {
	source := rand.New(rand.NewSource(13))
	for fuse := 0; ; fuse++ {
		cut := false
		for range 200 {
			s := begin(t)
			done(t, s.put("one"))
			for i := range source.Intn(4) {
				done(t, s.d.Write("other", 3*i, []byte("others")))
			}
			cut = s.play(t, []string{"a second"}, fuse)
			if !cut {
				done(t, s.d.Write("other.new", 0, []byte("others")))
				done(t, s.d.Rename("other.new", "other"))
			}
			what := fmt.Sprintf("fuse %d", fuse)
			s.crash(t, what, someOf(source, s.d.Waiting()), source.Intn(9))
			s.goOn(t, what)
		}
		if !cut {
			return
		}
	}
}

// anyText answers a text by chance.
func anyText(source *rand.Rand) string {
	b := make([]byte, source.Intn(20))
	for i := range b {
		b[i] = byte(source.Intn(256))
	}
	return string(b)
}

func TestByTheHistory(t *testing.T) {
	for seed := range 600 {
		source := rand.New(rand.NewSource(int64(seed)))
		s := begin(t)
		for i := range 120 {
			what := fmt.Sprintf("seed %d, step %d", seed, i)
			if source.Intn(4) == 0 {
				s.d.Fuse(source.Intn(8))
			}
			if seed%4 == 0 {
				s.d.Room(source.Intn(60))
			}
			has := s.has
			switch e := s.put(anyText(source)); {
			case e == api.OK:
			case e == api.ErrFull && seed%4 == 0:
				holds(t, s.v, has)
			case e == api.ErrLost && s.d.Down():
				isOver(t, s.v, has)
				s.reopen(t, source, what)
			default:
				t.Fatalf("%s: %d", what, e)
			}
			holds(t, s.v, s.has)
			if source.Intn(10) == 0 {
				s.reopen(t, source, what)
			}
			if t.Failed() {
				t.Fatal(what)
			}
		}
	}
}

func TestTheSameAnswersToTheSameScript(t *testing.T) {
	for i, list := range scripts() {
		for fuse := range 30 {
			one, other := begin(t), begin(t)
			if one.play(t, list, fuse) != other.play(t, list, fuse) || in(t, one.v) != in(t, other.v) || files(one.d) != files(other.d) {
				t.Errorf("script %d, fuse %d", i, fuse)
			}
			one.d.Crash([]bool{true, false, true}, 3)
			other.d.Crash([]bool{true, false, true}, 3)
			if in(t, opened(t, one.d)) != in(t, opened(t, other.d)) {
				t.Errorf("script %d, fuse %d, behind a crash", i, fuse)
			}
		}
	}
}
