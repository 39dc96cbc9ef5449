package conf_test

import (
	"math"
	"math/bits"
	"math/rand"
	"slices"
	"testing"

	"tabellion/api"
	"tabellion/conf"
)

// sets is how many sets of the ids 1 to 7 there are; the ids of one are its bits, that of 1 the lowest.
const sets = 1 << 7

// ids answers the ids of a set, rising.
func ids(set uint) []uint64 {
	var list []uint64
	for id := uint64(1); id <= 7; id++ {
		if set>>(id-1)&1 == 1 {
			list = append(list, id)
		}
	}
	return list
}

// setOf answers the set that ids are.
func setOf(list []uint64) uint {
	var set uint
	for _, id := range list {
		set |= 1 << (id - 1)
	}
	return set
}

// unformed answers lists that are no members.
func unformed() [][]uint64 {
	return [][]uint64{
		nil, {}, {0}, {8}, {9}, {0, 0}, {0, 1}, {1, 1}, {7, 7}, {2, 1}, {1, 0}, {1, 8}, {7, 8}, {1, 2, 2}, {1, 3, 2}, {3, 2, 1}, {0, 1, 2}, {1, 2, 0},
		{0, 1, 2, 3, 4, 5, 6}, {1, 2, 3, 4, 5, 6, 8}, {1, 2, 3, 4, 5, 6, 7, 7}, {1, 2, 3, 4, 5, 6, 7, 8}, {0, 1, 2, 3, 4, 5, 6, 7},
		{257}, {1<<32 + 1}, {1, 1<<32 + 2}, {1 << 63}, {math.MaxUint64}, {1, 2, math.MaxUint64}, slices.Repeat([]uint64{1}, 1<<8),
	}
}

// shortLists answers all lists of up to four ids, each below 5.
func shortLists() [][]uint64 {
	lists := [][]uint64{nil}
	for at := 0; at < len(lists); at++ {
		if len(lists[at]) == 4 {
			continue
		}
		for id := range uint64(5) {
			lists = append(lists, append(slices.Clone(lists[at]), id))
		}
	}
	return lists
}

// spared answers a list with spare room that holds something.
func spared[T any](list []T, spare T) []T {
	return append(slices.Clone(list), spare, spare, spare)[:len(list)]
}

// fill overwrites all that a list holds, and its spare room.
func fill[T any](list []T, with T) {
	list = list[:cap(list)]
	for i := range list {
		list[i] = with
	}
}

// isSpared tells whether a list that spared answered is as it was.
func isSpared(list, was []uint64, spare uint64) bool {
	return slices.Equal(list, was) && slices.Equal(list[:len(was)+3], append(slices.Clone(was), spare, spare, spare))
}

// P20.1

func TestHas(t *testing.T) {
	for _, c := range []struct {
		members []uint64
		id      uint64
		want    bool
	}{
		{nil, 0, false}, {nil, 1, false}, {[]uint64{}, 0, false},
		{[]uint64{1}, 1, true}, {[]uint64{1}, 0, false}, {[]uint64{1}, 2, false},
		{[]uint64{1, 2, 3}, 1, true}, {[]uint64{1, 2, 3}, 2, true}, {[]uint64{1, 2, 3}, 3, true}, {[]uint64{1, 2, 3}, 4, false}, {[]uint64{1, 3}, 2, false},
		{[]uint64{3, 1, 2}, 1, true}, {[]uint64{3, 1, 2}, 3, true}, {[]uint64{9, 5, 9, 1, 7}, 1, true}, {[]uint64{9, 5, 9, 1, 7}, 6, false},
		{[]uint64{2, 2}, 2, true}, {[]uint64{0}, 0, true}, {[]uint64{5, 0}, 0, true}, {[]uint64{8}, 8, true},
		{[]uint64{math.MaxUint64}, math.MaxUint64, true}, {[]uint64{math.MaxUint64}, math.MaxUint64 - 1, false},
		{[]uint64{1<<32 + 1}, 1, false}, {[]uint64{1}, 1<<32 + 1, false}, {[]uint64{1 << 63}, 0, false}, {[]uint64{257}, 1, false},
	} {
		if got := conf.Has(c.members, c.id); got != c.want {
			t.Errorf("Has(%v, %d): %v", c.members, c.id, got)
		}
	}
}

func TestHasOfAllShortLists(t *testing.T) {
	for _, list := range shortLists() {
		for id := range uint64(6) {
			want := false
			for _, other := range list {
				want = want || other == id
			}
			if got := conf.Has(list, id); got != want {
				t.Fatalf("Has(%v, %d): %v", list, id, got)
			}
		}
	}
}

func TestMajority(t *testing.T) {
	for n, want := range []int{1, 1, 2, 2, 3, 3, 4, 4, 5, 5, 6} {
		if got := conf.Majority(make([]uint64, n)); got != want {
			t.Errorf("Majority of %d alike: %d", n, got)
		}
		if got := conf.Majority(slices.Repeat([]uint64{9, 3}, n)[:n]); got != want {
			t.Errorf("Majority of %d: %d", n, got)
		}
	}
	if got := conf.Majority(nil); got != 1 {
		t.Errorf("Majority(nil): %d", got)
	}
	for _, n := range []int{255, 256, 65535, 65536, 65537} {
		if got := conf.Majority(make([]uint64, n)); got*2 <= n || (got-1)*2 > n {
			t.Errorf("Majority of %d: %d", n, got)
		}
	}
}

// places answers how many places of members have an id that stands among ids.
func places(members, ids []uint64) int {
	n := 0
	for _, member := range members {
		for _, id := range ids {
			if id == member {
				n++
				break
			}
		}
	}
	return n
}

// checkQuorum holds Quorum against the count of places.
func checkQuorum(t *testing.T, members, ids []uint64) {
	t.Helper()
	want := places(members, ids) >= len(members)/2+1
	if got := conf.Quorum(members, ids); got != want {
		t.Fatalf("Quorum(%v, %v): %v", members, ids, got)
	}
}

func TestQuorum(t *testing.T) {
	for _, c := range []struct {
		members, ids []uint64
		want         bool
	}{
		{nil, nil, false}, {nil, []uint64{1}, false}, {[]uint64{}, []uint64{0}, false}, {[]uint64{1}, nil, false},
		{[]uint64{1}, []uint64{1}, true}, {[]uint64{1}, []uint64{2}, false}, {[]uint64{1}, []uint64{3, 2, 1}, true},
		{[]uint64{1, 2}, []uint64{1}, false}, {[]uint64{1, 2}, []uint64{1, 1, 1}, false}, {[]uint64{1, 2}, []uint64{2, 1}, true},
		{[]uint64{1, 2, 3}, []uint64{3}, false}, {[]uint64{1, 2, 3}, []uint64{3, 3}, false}, {[]uint64{1, 2, 3}, []uint64{3, 9}, false},
		{[]uint64{1, 2, 3}, []uint64{3, 1, 9}, true}, {[]uint64{1, 2, 3}, []uint64{9, 8, 3, 0, 1}, true},
		{[]uint64{1, 2, 3, 4}, []uint64{1, 2}, false}, {[]uint64{1, 2, 3, 4}, []uint64{4, 1, 2}, true},
		{[]uint64{1, 2, 3, 4, 5}, []uint64{5, 4}, false}, {[]uint64{1, 2, 3, 4, 5}, []uint64{5, 4, 3}, true},
		{[]uint64{1, 2, 3, 4, 5, 6, 7}, []uint64{2, 4, 6}, false}, {[]uint64{1, 2, 3, 4, 5, 6, 7}, []uint64{7, 5, 3, 1}, true},
		// Each place counts, and an id that stands twice among ids counts once a place.
		{[]uint64{1, 1}, []uint64{1}, true}, {[]uint64{1, 1, 2}, []uint64{1}, true}, {[]uint64{1, 1, 2}, []uint64{2, 2}, false},
		{[]uint64{5, 1, 5, 2, 5}, []uint64{5}, true}, {[]uint64{5, 1, 5, 2, 5}, []uint64{1, 2}, false},
		{[]uint64{0}, []uint64{0}, true}, {[]uint64{0, 0, 0}, nil, false}, {[]uint64{8, 9, 10}, []uint64{10, 8}, true},
		{[]uint64{math.MaxUint64}, []uint64{math.MaxUint64}, true}, {[]uint64{1<<32 + 1}, []uint64{1}, false}, {[]uint64{1 << 63}, []uint64{0}, false},
	} {
		if got := conf.Quorum(c.members, c.ids); got != c.want {
			t.Errorf("Quorum(%v, %v): %v", c.members, c.ids, got)
		}
	}
}

func TestQuorumOfAllMembers(t *testing.T) {
	for members := range uint(sets) {
		for some := range uint(sets) {
			want := bits.OnesCount(members&some)*2 > bits.OnesCount(members)
			if got := conf.Quorum(ids(members), ids(some)); got != want {
				t.Fatalf("Quorum(%v, %v): %v", ids(members), ids(some), got)
			}
		}
	}
}

func TestQuorumOfAllShortLists(t *testing.T) {
	lists := shortLists()
	for _, members := range lists {
		for _, some := range lists {
			checkQuorum(t, members, some)
		}
	}
}

func TestQuorumByChance(t *testing.T) {
	source := rand.New(rand.NewSource(20))
	few := func() []uint64 {
		list := make([]uint64, source.Intn(20))
		for i := range list {
			list[i] = uint64(source.Intn(12)) << (8 * source.Intn(8))
		}
		return list
	}
	for range 20000 {
		checkQuorum(t, few(), few())
	}
}

func TestQuorumOfLongLists(t *testing.T) {
	const n = 1 << 18
	members, some := make([]uint64, n), make([]uint64, n/2+1)
	for i := range members {
		members[i] = uint64(n - i)
	}
	for i := range some {
		some[i] = uint64(2*i + 1)
	}
	if conf.Quorum(members, some) {
		t.Error("half of them: true") // the last one of some stands outside
	}
	some[0] = 2
	some[n/2] = 1
	if !conf.Quorum(members, some) {
		t.Error("half of them and one: false")
	}
}

// P20.2

func TestMayOfAllMembers(t *testing.T) {
	for old := uint(1); old < sets; old++ {
		for next := uint(1); next < sets; next++ {
			want := bits.OnesCount(old^next) == 1
			if got := conf.May(ids(old), ids(next)); got != want {
				t.Fatalf("May(%v, %v): %v", ids(old), ids(next), got)
			}
		}
	}
}

func TestMayOfListsThatAreNone(t *testing.T) {
	for _, wrong := range unformed() {
		for set := uint(1); set < sets; set++ {
			if conf.May(wrong, ids(set)) || conf.May(ids(set), wrong) {
				t.Errorf("May of %v and %v: true", wrong, ids(set))
			}
		}
		for _, other := range unformed() {
			if conf.May(wrong, other) {
				t.Errorf("May(%v, %v): true", wrong, other)
			}
		}
	}
}

// TestMayOfAllShortLists has lists that aren't rising, have an id twice, or have an id of 0.
func TestMayOfAllShortLists(t *testing.T) {
	lists := shortLists()
	good := func(list []uint64) bool {
		return len(list) > 0 && list[0] > 0 && slices.IsSorted(list) && len(slices.Compact(slices.Clone(list))) == len(list)
	}
	for _, old := range lists {
		for _, next := range lists {
			want := good(old) && good(next) && bits.OnesCount(setOf(old)^setOf(next)) == 1
			if got := conf.May(old, next); got != want {
				t.Fatalf("May(%v, %v): %v", old, next, got)
			}
		}
	}
}

// P20.3

// majorities answers, of each set of members, the sets of some of them that are a quorum.
func majorities() [][]uint {
	list := make([][]uint, sets)
	for members := range uint(sets) {
		for some := range uint(sets) {
			if some&^members == 0 && conf.Quorum(ids(members), ids(some)) {
				list[members] = append(list[members], some)
			}
		}
	}
	return list
}

func TestMajoritiesOfThoseThatFollowMeet(t *testing.T) {
	list := majorities()
	pairs := 0
	for old := range uint(sets) {
		for next := range uint(sets) {
			if !conf.May(ids(old), ids(next)) {
				continue
			}
			pairs++
			for _, a := range list[old] {
				for _, b := range list[next] {
					if a&b == 0 {
						t.Fatalf("of %v and %v the majorities %v and %v", ids(old), ids(next), ids(a), ids(b))
					}
				}
			}
		}
	}
	if pairs != 7*sets-2*7 { // each of 7 ids put in or taken out of each set, but from and to the empty one
		t.Errorf("%d pairs may follow one another", pairs)
	}
}

func TestMajoritiesOfTheSameMeet(t *testing.T) {
	for members, list := range majorities() {
		if members > 0 && len(list) == 0 {
			t.Errorf("%v have no majority", ids(uint(members)))
		}
		for _, a := range list {
			for _, b := range list {
				if a&b == 0 {
					t.Fatalf("of %v the majorities %v and %v", ids(uint(members)), ids(a), ids(b))
				}
			}
		}
	}
}

// P20.4

// entry answers one of a kind that has members, be it formed or not.
func entry(kind int, list ...uint64) api.Entry {
	return api.Entry{Term: 1, Kind: kind, Members: list}
}

func TestLatest(t *testing.T) {
	first := []uint64{1, 2, 3}
	for what, c := range map[string]struct {
		first []uint64
		list  []api.Entry
		want  []uint64
	}{
		"no entries":                {first, nil, first},
		"an empty list":             {first, []api.Entry{}, first},
		"nobody, and no entries":    {nil, nil, nil},
		"an empty first":            {[]uint64{}, nil, nil},
		"first ones that are none":  {[]uint64{9, 0, 9}, []api.Entry{entry(api.KindPut)}, []uint64{9, 0, 9}},
		"none of the kind":          {first, []api.Entry{entry(api.KindNone), entry(api.KindPut), entry(api.KindNone)}, first},
		"other kinds with members":  {first, []api.Entry{entry(api.KindNone, 4), entry(api.KindPut, 5)}, first},
		"kinds that are none":       {first, []api.Entry{entry(0, 4), entry(4, 5), entry(-3, 6), entry(3+256, 6), entry(1<<32+3, 7), entry(math.MinInt, 1)}, first},
		"one":                       {first, []api.Entry{entry(api.KindConf, 1, 2)}, []uint64{1, 2}},
		"one, nobody first":         {nil, []api.Entry{entry(api.KindConf, 1, 2)}, []uint64{1, 2}},
		"one as the first":          {first, []api.Entry{entry(api.KindConf, 4), entry(api.KindPut), entry(api.KindNone)}, []uint64{4}},
		"one as the last":           {first, []api.Entry{entry(api.KindNone), entry(api.KindPut), entry(api.KindConf, 4)}, []uint64{4}},
		"the last of two":           {first, []api.Entry{entry(api.KindConf, 1, 2), entry(api.KindConf, 2)}, []uint64{2}},
		"the last of two, greater":  {first, []api.Entry{entry(api.KindConf, 2), entry(api.KindPut), entry(api.KindConf, 1, 2), entry(api.KindPut)}, []uint64{1, 2}},
		"the last one has nobody":   {first, []api.Entry{entry(api.KindConf, 1, 2), entry(api.KindConf)}, nil},
		"the last one isn't formed": {first, []api.Entry{entry(api.KindConf, 1, 2), entry(api.KindConf, 9, 9, 0)}, []uint64{9, 9, 0}},
		"the terms fall":            {first, []api.Entry{{Term: 9, Kind: api.KindConf, Members: []uint64{4}}, {Term: 0, Kind: api.KindConf, Members: []uint64{5}}}, []uint64{5}},
		"another one has more":      {first, []api.Entry{{Kind: api.KindConf, Members: []uint64{4}, Client: 1, Seq: 2, Data: []byte("a")}}, []uint64{4}},
	} {
		if got := conf.Latest(c.first, c.list); !slices.Equal(got, c.want) {
			t.Errorf("%s: %v, want %v", what, got, c.want)
		}
	}
}

func TestLatestOfEachPlace(t *testing.T) {
	const n = 200
	for at := range n {
		list := slices.Repeat([]api.Entry{entry(api.KindPut), entry(api.KindNone)}, n/2)
		for i := range at + 1 {
			list[i] = entry(api.KindConf, uint64(i))
		}
		if got := conf.Latest([]uint64{1, 2}, list); !slices.Equal(got, []uint64{uint64(at)}) {
			t.Fatalf("the last one at %d: %v", at, got)
		}
	}
}

// P20.5

// way answers the sets on the way from one to another, as the chapter says them.
func way(old, next uint) []uint {
	var list []uint
	for bit := uint(1); bit < sets; bit <<= 1 {
		if bit&next&^old != 0 {
			old |= bit
			list = append(list, old)
		}
	}
	for bit := uint(1); bit < sets; bit <<= 1 {
		if bit&old&^next != 0 {
			old &^= bit
			list = append(list, old)
		}
	}
	return list
}

func TestStepsOfAllMembers(t *testing.T) {
	for old := uint(1); old < sets; old++ {
		for next := uint(1); next < sets; next++ {
			steps, want := conf.Steps(ids(old), ids(next)), way(old, next)
			if len(steps) != len(want) || len(steps) != bits.OnesCount(old^next) {
				t.Fatalf("Steps(%v, %v): %v", ids(old), ids(next), steps)
			}
			ahead := ids(old)
			for i, step := range steps {
				if !slices.Equal(step, ids(want[i])) || !conf.May(ahead, step) {
					t.Fatalf("Steps(%v, %v): %v", ids(old), ids(next), steps)
				}
				ahead = step
			}
			if !slices.Equal(ahead, ids(next)) {
				t.Fatalf("Steps(%v, %v): the last ones are %v", ids(old), ids(next), ahead)
			}
		}
	}
}

func TestStepsThatAreWrittenOut(t *testing.T) {
	for _, c := range []struct {
		old, next []uint64
		want      [][]uint64
	}{
		{[]uint64{1}, []uint64{1}, nil},
		{[]uint64{1, 2, 3, 4, 5, 6, 7}, []uint64{1, 2, 3, 4, 5, 6, 7}, nil},
		{[]uint64{1}, []uint64{2}, [][]uint64{{1, 2}, {2}}},
		{[]uint64{2}, []uint64{1}, [][]uint64{{1, 2}, {1}}},
		{[]uint64{1, 2}, []uint64{2, 3}, [][]uint64{{1, 2, 3}, {2, 3}}},
		{[]uint64{4}, []uint64{2, 4, 6}, [][]uint64{{2, 4}, {2, 4, 6}}},
		{[]uint64{2, 4, 6}, []uint64{4}, [][]uint64{{4, 6}, {4}}},
		{[]uint64{1, 3, 7}, []uint64{2, 6}, [][]uint64{{1, 2, 3, 7}, {1, 2, 3, 6, 7}, {2, 3, 6, 7}, {2, 6, 7}, {2, 6}}},
	} {
		got := conf.Steps(c.old, c.next)
		if !slices.EqualFunc(got, c.want, slices.Equal[[]uint64]) {
			t.Errorf("Steps(%v, %v): %v, want %v", c.old, c.next, got, c.want)
		}
	}
}

func TestStepsOfListsThatAreNone(t *testing.T) {
	for _, wrong := range unformed() {
		for set := uint(1); set < sets; set++ {
			if a, b := conf.Steps(wrong, ids(set)), conf.Steps(ids(set), wrong); len(a) > 0 || len(b) > 0 {
				t.Errorf("Steps of %v and %v: %v, %v", wrong, ids(set), a, b)
			}
		}
		for _, other := range unformed() {
			if got := conf.Steps(wrong, other); len(got) > 0 {
				t.Errorf("Steps(%v, %v): %v", wrong, other, got)
			}
		}
	}
}

// What holds of all calls: what is handed in stays as it is, and what is answered is new memory.

func TestArgumentsStayAsTheyAre(t *testing.T) {
	cases := [][2][]uint64{{{1, 2}, {2, 3}}, {{7, 3, 1}, {9, 2, 0, 7}}, {{1}, {1, 2, 3, 4, 5, 6, 7}}, {{1, 2, 3, 4, 5, 6, 7}, {7}}, {{4, 5}, {4, 5}}, {nil, {5, 1}}}
	for _, c := range cases {
		a, b := spared(c[0], 99), spared(c[1], 98)
		list := spared([]api.Entry{entry(api.KindConf, b...), entry(api.KindPut)}, entry(api.KindConf, 5))
		list[0].Members = b
		conf.Has(a, 7)
		conf.Majority(a)
		conf.Quorum(a, b)
		conf.May(a, b)
		conf.Steps(a, b)
		conf.Latest(a, list)
		conf.Latest(a, list[1:])
		if !isSpared(a, c[0], 99) || !isSpared(b, c[1], 98) {
			t.Errorf("%v became %v, %v became %v", c[0], a[:len(a)+3], c[1], b[:len(b)+3])
		}
		if list[0].Kind != api.KindConf || list[1].Kind != api.KindPut || list[1].Members != nil || list[:3][2].Members[0] != 5 {
			t.Errorf("the entries became %v", list[:3])
		}
	}
}

func TestLatestAnswersNewMemory(t *testing.T) {
	first, members := spared([]uint64{1, 2, 3}, 99), spared([]uint64{4, 5}, 98)
	list := []api.Entry{{Kind: api.KindConf, Members: members}, {Kind: api.KindPut}}
	for _, c := range []struct{ list []api.Entry }{{list}, {list[1:]}, {nil}} {
		got := conf.Latest(first, c.list)
		was := slices.Clone(got)
		other := conf.Latest(first, c.list)
		fill(got, 55)
		if !isSpared(first, []uint64{1, 2, 3}, 99) || !isSpared(members, []uint64{4, 5}, 98) || !slices.Equal(other, was) {
			t.Errorf("the answer %v shares its memory", was)
		}
	}
	latest, none := conf.Latest(first, list), conf.Latest(first, nil)
	fill(first, 66)
	fill(members, 67)
	if !slices.Equal(latest, []uint64{4, 5}) || !slices.Equal(none, []uint64{1, 2, 3}) {
		t.Errorf("the answers became %v, %v", latest, none)
	}
	empty := spared([]uint64{}, 99)
	fill(conf.Latest(empty, nil), 55)
	fill(conf.Latest(nil, []api.Entry{{Kind: api.KindConf, Members: empty}}), 55)
	if !isSpared(empty, nil, 99) {
		t.Error("an empty answer has spare room that isn't its own")
	}
}

func TestStepsAnswersNewMemory(t *testing.T) {
	for old := uint(1); old < sets; old++ {
		for next := uint(1); next < sets; next += 3 {
			a, b := spared(ids(old), 99), spared(ids(next), 98)
			steps, want := conf.Steps(a, b), way(old, next)
			for i := range steps {
				fill(steps[i], 55) // those behind it stay as they are, those ahead are spoiled already
				for j := i + 1; j < len(steps); j++ {
					if !slices.Equal(steps[j], ids(want[j])) {
						t.Fatalf("Steps(%v, %v): number %d shares memory with number %d", ids(old), ids(next), i, j)
					}
				}
			}
			if !isSpared(a, ids(old), 99) || !isSpared(b, ids(next), 98) {
				t.Fatalf("Steps(%v, %v): an answer shares its memory with what was handed in", ids(old), ids(next))
			}
			again := conf.Steps(a, b)
			for i := len(again) - 1; i >= 0; i-- {
				fill(again[i], 55)
				for j := range i {
					if !slices.Equal(again[j], ids(want[j])) {
						t.Fatalf("Steps(%v, %v): number %d shares memory with number %d", ids(old), ids(next), i, j)
					}
				}
			}
		}
	}
}
