package wal_test

import (
	"fmt"
	"math/rand"
	"slices"
	"strings"
	"testing"

	"tabellion/api"
	"tabellion/disk"
	"tabellion/frame"
	"tabellion/wal"
)

// P9.4: what is there behind a crash

// history is what a log was told, as far as it says what may be there behind a crash: the records from first on, as many
// as there may be; those below sure are there, and those from sure on as far as a beginning of them goes. Behind a Trim
// that was lost the first number may be the other one.
type history struct {
	first, other uint64
	sure         uint64
	recs         []string
}

func (h *history) next() uint64 {
	return h.first + uint64(len(h.recs))
}

// settle takes all that there is for sure.
func (h *history) settle() {
	h.sure = h.next()
	h.other = h.first
}

// cut and trim are what the calls do that are answered OK.
func (h *history) cut(n uint64) {
	h.recs = h.recs[:n-h.first]
	h.settle()
}

func (h *history) trim(n uint64) {
	h.recs = h.recs[n-h.first:]
	h.first = n
	h.settle()
}

// fault tells what of a log is otherwise than the history lets it be behind a crash; nothing, if it is one of those.
func (h *history) fault(l *wal.Log) string {
	first, next := l.First(), l.Next()
	if first != h.first && first != h.other {
		return fmt.Sprintf("First %d, not %d or %d", first, h.first, h.other)
	}
	if next < max(h.sure, first) || next > h.next() {
		return fmt.Sprintf("Next %d (First %d), not from %d to %d", next, first, max(h.sure, first), h.next())
	}
	for n := first; n < next; n++ {
		if b, e := l.Get(n); string(b) != h.recs[n-h.first] || e != api.OK {
			return fmt.Sprintf("Get(%d): %s, %d, not %s", n, short(string(b)), e, short(h.recs[n-h.first]))
		}
	}
	return ""
}

// adopt takes a log that was opened for what there is.
func (h *history) adopt(l *wal.Log) {
	h.recs = slices.Clone(h.recs[l.First()-h.first : l.Next()-h.first])
	h.first = l.First()
	h.settle()
}

// The kinds of steps.
const (
	add = iota
	sync
	cut
	trim
	reopen
)

// step of a script.
type step struct {
	kind int
	n    uint64
	rec  string
}

// scene is a log on a disk, and its history.
type scene struct {
	d *disk.Disk
	l *wal.Log
	h history
}

// do a step; the answer is the log's.
func (s *scene) do(p step) api.Errno {
	var e api.Errno
	switch p.kind {
	case add:
		e = s.l.Append([]byte(p.rec))
		if e == api.OK || e == api.ErrLost {
			s.h.recs = append(s.h.recs, p.rec)
		}
	case sync:
		e = s.l.Sync()
		if e == api.OK {
			s.h.settle()
		}
	case cut:
		e = s.l.Cut(p.n)
		switch e {
		case api.OK:
			s.h.cut(p.n)
		case api.ErrLost:
			s.h.sure = min(s.h.sure, p.n)
		}
	case trim:
		e = s.l.Trim(p.n)
		switch e {
		case api.OK:
			s.h.trim(p.n)
		case api.ErrLost:
			s.h.other = p.n
		}
	case reopen:
		var l *wal.Log
		l, e = wal.Open(s.d, "log")
		if e == api.OK {
			s.l = l
			s.h.settle()
		}
	}
	return e
}

// begin answers a scene on an empty disk.
func begin(t *testing.T) *scene {
	t.Helper()
	d := disk.New(roomy)
	return &scene{d: d, l: opened(t, d)}
}

// play a script till the fuse cuts it; it answers whether that happened.
func play(t *testing.T, script []step, fuse int) (*scene, bool) {
	t.Helper()
	s := begin(t)
	s.d.Fuse(fuse)
	for i, p := range script {
		switch e := s.do(p); e {
		case api.OK:
		case api.ErrLost:
			return s, true
		default:
			t.Fatalf("step %d: %d", i, e)
		}
	}
	return s, false
}

// goOn opens the log behind a crash, and holds it against the history; and then what is told to it, behind one more crash.
func (s *scene) goOn(t *testing.T, what string) {
	t.Helper()
	s.d.Fuse(-1)
	l, e := wal.Open(s.d, "log")
	if e != api.OK {
		t.Fatalf("%s: Open: %d", what, e)
	}
	if fault := s.h.fault(l); fault != "" {
		t.Fatalf("%s: %s", what, fault)
	}
	s.l = l
	s.h.adopt(l)
	for _, p := range []step{{kind: add, rec: "new"}, {kind: add, rec: "newer"}, {kind: sync}} {
		done(t, s.do(p))
	}
	l = crashed(t, s.d)
	if fault := s.h.fault(l); fault != "" {
		t.Fatalf("%s, behind one more crash: %s", what, fault)
	}
}

// masks are ways to keep some of so many operations: all ways, if they are few, else some, the extreme ones among them.
func masks(source *rand.Rand, n int) [][]bool {
	var list [][]bool
	if n <= 6 {
		for bits := range 1 << n {
			keep := make([]bool, n)
			for i := range keep {
				keep[i] = bits>>i&1 == 1
			}
			list = append(list, keep)
		}
		return list
	}
	for i := range n {
		one, allBut := make([]bool, n), slices.Repeat([]bool{true}, n)
		one[i], allBut[i] = true, false
		list = append(list, one, allBut, slices.Repeat([]bool{true}, i))
	}
	for range 20 {
		list = append(list, someOf(source, n))
	}
	return append(list, slices.Repeat([]bool{true}, n))
}

// someOf keeps operations by chance.
func someOf(source *rand.Rand, n int) []bool {
	keep := make([]bool, n)
	often := 1 + source.Intn(4)
	for i := range keep {
		keep[i] = source.Intn(5) < often
	}
	return keep
}

// laid answers the frames of records, which a log might take for records of its own.
func laid(recs ...string) string {
	var list [][]byte
	for _, rec := range recs {
		list = append(list, []byte(rec))
	}
	b, _ := frame.Lay(list)
	return string(b)
}

// scripts whose every beginning is cut and kept in part.
func scripts() map[string][]step {
	a, b, c := step{kind: add, rec: "a"}, step{kind: add, rec: "bb"}, step{kind: add, rec: "cc"}
	empty, zeros := step{kind: add}, step{kind: add, rec: "\x00\x00\x00\x00\x00\x00\x00\x00"}
	inner := step{kind: add, rec: laid("inner", "records")}
	s := step{kind: sync}
	return map[string][]step{
		"append":               {a, b, c, s, a},
		"append, sync":         {a, s, b, s, c, s},
		"alike":                {a, a, a, s, a, a, a},
		"empty ones":           {empty, empty, a, empty, s, empty},
		"zeros":                {zeros, zeros, s, zeros, a},
		"records in records":   {inner, inner, a, inner, s, inner},
		"cut what is sure":     {a, b, c, s, {kind: cut, n: 1}, c, b},
		"cut what waits":       {a, s, b, c, {kind: cut, n: 2}, a},
		"cut all":              {a, b, s, c, {kind: cut, n: 0}, c, b, s},
		"cut none":             {a, b, {kind: cut, n: 2}, c},
		"cut, cut":             {a, b, c, {kind: cut, n: 2}, {kind: cut, n: 1}, c, {kind: cut, n: 1}, b},
		"trim what is sure":    {a, b, c, s, {kind: trim, n: 2}, a, b},
		"trim what waits":      {a, b, c, {kind: trim, n: 2}, a, s},
		"trim into what waits": {a, s, b, c, {kind: trim, n: 2}, a},
		"trim all":             {a, b, c, s, {kind: trim, n: 3}, a, b},
		"trim none":            {a, b, {kind: trim, n: 0}, c, {kind: trim, n: 0}},
		"trim, trim":           {a, b, c, {kind: trim, n: 1}, {kind: trim, n: 2}, a, {kind: trim, n: 4}, b},
		"trim, cut":            {a, b, c, a, {kind: trim, n: 1}, b, {kind: cut, n: 2}, c, {kind: trim, n: 3}, a},
		"cut, trim":            {a, b, c, a, {kind: cut, n: 3}, b, {kind: trim, n: 2}, c, {kind: cut, n: 2}, a},
		"open":                 {a, b, {kind: reopen}, c, a, {kind: reopen}, {kind: cut, n: 3}, b, {kind: reopen}, {kind: trim, n: 1}, {kind: reopen}},
	}
}

func TestWhateverACrashKeeps(t *testing.T) {
	source := rand.New(rand.NewSource(9))
	for name, script := range scripts() {
		for fuse, cut := 0, true; cut; fuse++ {
			var s *scene
			s, cut = play(t, script, fuse)
			for _, keep := range masks(source, s.d.Waiting()) {
				for _, torn := range []int{0, 1, 4, 6, whole} {
					again, _ := play(t, script, fuse)
					again.d.Crash(keep, torn)
					again.goOn(t, fmt.Sprintf("%s, fuse %d, keep %v, torn %d", name, fuse, keep, torn))
				}
			}
			if fuse > 1000 {
				t.Fatalf("%s doesn't end", name)
			}
		}
	}
}

func TestACrashWhileTheLogIsOpened(t *testing.T) {
	source := rand.New(rand.NewSource(99))
	for name, script := range scripts() {
		for fuse, cut := 0, true; cut; fuse++ {
			_, cut = play(t, script, fuse)
			for range 12 {
				s, _ := play(t, script, fuse)
				s.d.Crash(someOf(source, s.d.Waiting()), source.Intn(9))
				for open := 0; ; open++ {
					s.d.Fuse(open)
					l, e := wal.Open(s.d, "log")
					if e == api.OK {
						if fault := s.h.fault(l); fault != "" {
							t.Fatalf("%s, fuse %d, fuse of Open %d: %s", name, fuse, open, fault)
						}
						s.h.adopt(l)
						break
					}
					if l != nil || e != api.ErrLost || open > 1000 {
						t.Fatalf("%s, fuse %d, fuse of Open %d: %v, %d", name, fuse, open, l, e)
					}
					s.d.Crash(someOf(source, s.d.Waiting()), source.Intn(9))
				}
				s.d.Crash(someOf(source, s.d.Waiting()), source.Intn(9))
				s.goOn(t, fmt.Sprintf("%s, fuse %d", name, fuse))
			}
		}
	}
}

func TestEveryBeginningOfALastRecord(t *testing.T) {
	recs := []string{"", "a", laid(""), laid("a", "b"), laid("a", "b")[:9], strings.Repeat("\x00", 20), strings.Repeat("\xff", 300)}
	for _, rec := range recs {
		for torn := 0; ; torn++ {
			s := begin(t)
			for _, p := range []step{{kind: add, rec: "first"}, {kind: sync}, {kind: add, rec: "second"}, {kind: add, rec: rec}} {
				done(t, s.do(p))
			}
			s.d.Crash(slices.Repeat([]bool{true}, s.d.Waiting()), torn)
			l := opened(t, s.d)
			if l.Next() > 2 || torn > len(rec)+100 {
				holds(t, l, 0, "first", "second", rec)
				break
			}
			s.goOn(t, fmt.Sprintf("%s, torn %d", short(rec), torn))
		}
	}
}

func TestWhatACrashLeftDoesNotComeBack(t *testing.T) {
	source := rand.New(rand.NewSource(8))
	for missing := range 5 {
		for again := 1; again < 5; again++ {
			s := begin(t)
			for i := range 5 {
				done(t, s.do(step{kind: add, rec: fmt.Sprint("old ", i)}))
			}
			keep := slices.Repeat([]bool{true}, s.d.Waiting())
			if missing < len(keep) {
				keep[missing] = false
			}
			s.d.Crash(keep, whole)
			l := opened(t, s.d)
			if fault := s.h.fault(l); fault != "" {
				t.Fatal(fault)
			}
			s.h.adopt(l)
			s.l = l
			for i := range again {
				done(t, s.do(step{kind: add, rec: fmt.Sprint("new ", i)}))
			}
			s.d.Crash(someOf(source, s.d.Waiting()), whole)
			s.goOn(t, fmt.Sprintf("missing %d, again %d", missing, again))
		}
	}
}

func TestACrashOfALongLog(t *testing.T) {
	source := rand.New(rand.NewSource(7))
	for round := range 6 {
		s := begin(t)
		for i := range 160 {
			done(t, s.do(step{kind: add, rec: strings.Repeat(string(rune('a'+(i+round)%26)), longest-source.Intn(40))}))
			if i == 20*round {
				done(t, s.do(step{kind: sync}))
			}
		}
		s.d.Fuse(source.Intn(4))
		switch round % 3 {
		case 1:
			s.do(step{kind: cut, n: uint64(source.Intn(161))})
		case 2:
			s.do(step{kind: trim, n: uint64(source.Intn(161))})
		}
		n := s.d.Waiting()
		keep := slices.Repeat([]bool{true}, n)
		for i := range keep {
			keep[i] = source.Intn(40) > 0
		}
		s.d.Crash(keep, source.Intn(longest))
		s.goOn(t, fmt.Sprintf("round %d", round))
	}
}

// anyRecord answers a record by chance, of a kind that could mislead.
func anyRecord(source *rand.Rand) string {
	b := make([]byte, source.Intn(12))
	source.Read(b)
	switch source.Intn(8) {
	case 0:
		return ""
	case 1:
		return strings.Repeat("\x00", source.Intn(40))
	case 2:
		return laid(string(b), "x", "")
	case 3:
		return strings.Repeat("long", source.Intn(100))
	case 4:
		return "same"
	}
	return string(b)
}

// anyStep answers a step by chance.
func anyStep(source *rand.Rand, l *wal.Log) step {
	n := l.First() + uint64(source.Intn(int(l.Next()-l.First())+1))
	kind := []int{add, add, add, add, add, add, sync, sync, cut, trim, reopen}[source.Intn(11)]
	return step{kind: kind, n: n, rec: anyRecord(source)}
}

// stumble crashes the disk, some times also while the log is opened, and goes on with what is there.
func (s *scene) stumble(t *testing.T, source *rand.Rand, what string) {
	t.Helper()
	for {
		s.d.Crash(someOf(source, s.d.Waiting()), source.Intn(14)-1)
		s.d.Fuse(source.Intn(6) - 1)
		l, e := wal.Open(s.d, "log")
		if e == api.ErrLost && l == nil {
			continue
		}
		s.d.Fuse(-1)
		want(t, what+": Open", e, api.OK)
		if fault := s.h.fault(l); fault != "" {
			t.Fatalf("%s: %s", what, fault)
		}
		s.h.adopt(l)
		s.l = l
		return
	}
}

func TestByTheHistory(t *testing.T) {
	for seed := range 400 {
		source := rand.New(rand.NewSource(int64(seed)))
		s := begin(t)
		if seed%4 == 0 {
			s.d.Room(100 + source.Intn(400))
		}
		for i := range 120 {
			what := fmt.Sprintf("seed %d, step %d", seed, i)
			if source.Intn(12) == 0 {
				s.d.Fuse(source.Intn(8))
			}
			asked := s.h
			p := anyStep(source, s.l)
			switch e := s.do(p); {
			case e == api.ErrLost:
				if p.kind != reopen {
					holds(t, s.l, asked.first, asked.recs...)
				}
				s.stumble(t, source, what)
			case e == api.OK:
			case e == api.ErrFull && seed%4 == 0 && (p.kind == add || p.kind == trim):
			default:
				t.Fatalf("%s: kind %d: %d", what, p.kind, e)
			}
			holds(t, s.l, s.h.first, s.h.recs...)
			if source.Intn(25) == 0 {
				s.stumble(t, source, what)
			}
			if t.Failed() {
				t.Fatal(what)
			}
		}
	}
}

func TestTheSameAnswersToTheSameScript(t *testing.T) {
	for name, script := range scripts() {
		for fuse := range 12 {
			one, cut := play(t, script, fuse)
			other, also := play(t, script, fuse)
			if cut != also || one.l.Next() != other.l.Next() || one.d.Waiting() != other.d.Waiting() {
				t.Errorf("%s, fuse %d", name, fuse)
			}
			one.d.Crash([]bool{true, false, true}, 3)
			other.d.Crash([]bool{true, false, true}, 3)
			l := opened(t, one.d)
			var recs []string
			for n := l.First(); n < l.Next(); n++ {
				b, _ := l.Get(n)
				recs = append(recs, string(b))
			}
			holds(t, opened(t, other.d), l.First(), recs...)
		}
	}
}
