package edge_test

import (
	"bytes"
	"encoding/binary"
	"math"
	"math/rand"
	"slices"
	"testing"

	"tabellion/api"
	"tabellion/edge"
)

var (
	inf       = math.Inf(1)
	minusZero = math.Copysign(0, -1)
	nan       = math.NaN()
)

// infRank is +Inf's rank, as the chapter says it.
const infRank = int64(2047) << 52

// least is the least number above 0, normal the least one that has all its digits.
const (
	least  = math.SmallestNonzeroFloat64
	normal = 0x1p-1022
)

// rising are unlike floats in the order, with those at all its edges.
func rising() []float64 {
	sizes := []float64{least, 2 * least, 3 * least, math.Nextafter(normal, 0), normal, math.Nextafter(normal, 1), 1e-300, 0.1, math.Nextafter(1, 0), 1, math.Nextafter(1, 2), 2, 3, 1 << 53, 1<<53 + 2, 1e300, math.Nextafter(math.MaxFloat64, 0), math.MaxFloat64}
	list := []float64{-inf}
	for _, f := range slices.Backward(sizes) {
		list = append(list, -f)
	}
	list = append(list, minusZero, 0)
	return append(append(list, sizes...), inf, nan)
}

// nans are NaN of many forms: both signs, told loud and told quiet.
func nans() (list []float64) {
	for _, bits := range []uint64{0x7ff8 << 48, 0x7ff8<<48 | 1, 0x7ff0<<48 | 1, 0xfff8 << 48, 0xfff0<<48 | 1, 0x7fff<<48 | 1<<48 - 1, 1<<64 - 1, 0x7ff4 << 48, 0xfffc << 48} {
		list = append(list, math.Float64frombits(bits))
	}
	return list
}

// chance answers a float of any bits, from a source that is the same in each run.
func chance(source *rand.Rand) float64 {
	return math.Float64frombits(source.Uint64())
}

// one tells whether two floats are one: their bits, or NaN both.
func one(a, b float64) bool {
	return a != a && b != b || math.Float64bits(a) == math.Float64bits(b)
}

// place is a number that grows along the order: the bits, turned so that those of floats with the sign stand first.
func place(f float64) uint64 {
	bits := math.Float64bits(f)
	switch {
	case f != f:
		return 1<<64 - 1
	case bits>>63 == 1:
		return ^bits
	}
	return bits | 1<<63
}

// order is the order of two floats by their places.
func order(a, b float64) int {
	switch x, y := place(a), place(b); {
	case x < y:
		return -1
	case x > y:
		return 1
	}
	return 0
}

// P5.1

func TestClassOfEachKind(t *testing.T) {
	for want, list := range [][]float64{
		{-inf},
		{-math.MaxFloat64, -1e300, -1, -0.5, -normal, -math.Nextafter(normal, 0), -least},
		{minusZero},
		{0},
		{least, math.Nextafter(normal, 0), normal, 0.5, 1, 1e300, math.MaxFloat64},
		{inf},
		nans(),
	} {
		for _, f := range list {
			if got := edge.Class(f); got != want {
				t.Errorf("Class(%v, bits %x): %d, want %d", f, math.Float64bits(f), got, want)
			}
		}
	}
}

func TestClassRisesAlongTheOrder(t *testing.T) {
	source := rand.New(rand.NewSource(1))
	for range 20000 {
		a, b := chance(source), chance(source)
		if order(a, b) < 0 && edge.Class(a) > edge.Class(b) {
			t.Fatalf("Class(%v) %d is above Class(%v) %d", a, edge.Class(a), b, edge.Class(b))
		}
	}
}

func TestOrderOfEachTwo(t *testing.T) {
	list := rising()
	for i, a := range list {
		for j, b := range list {
			want := 0
			if i < j {
				want = -1
			} else if i > j {
				want = 1
			}
			if got := edge.Order(a, b); got != want {
				t.Errorf("Order(%v, %v): %d, want %d", a, b, got, want)
			}
		}
	}
}

func TestOrderOfAny(t *testing.T) {
	source := rand.New(rand.NewSource(2))
	for range 50000 {
		a, b := chance(source), chance(source)
		if got, want := edge.Order(a, b), order(a, b); got != want {
			t.Fatalf("Order(%v, %v): %d, want %d", a, b, got, want)
		}
		if next := math.Nextafter(a, inf); edge.Order(a, next) != order(a, next) || edge.Order(next, a) != order(next, a) || edge.Order(a, a) != 0 {
			t.Fatalf("Order of %v and the next one", a)
		}
	}
}

func TestAllNaNAreOne(t *testing.T) {
	for _, a := range nans() {
		for _, b := range nans() {
			if edge.Order(a, b) != 0 {
				t.Errorf("Order of NaN %x and %x: %d", math.Float64bits(a), math.Float64bits(b), edge.Order(a, b))
			}
		}
		if edge.Order(a, inf) != 1 || edge.Order(-inf, a) != -1 || edge.Order(0, a) != -1 {
			t.Errorf("NaN %x doesn't stand last", math.Float64bits(a))
		}
	}
}

// P5.2

func TestRankKnown(t *testing.T) {
	for _, c := range []struct {
		f    float64
		want int64
	}{
		{0, 0},
		{minusZero, -1},
		{least, 1},
		{-least, -2},
		{2 * least, 2},
		{-2 * least, -3},
		{normal, 1 << 52},
		{-normal, -1 - 1<<52},
		{1, 1023 << 52},
		{-1, -1 - 1023<<52},
		{2, 1024 << 52},
		{math.MaxFloat64, infRank - 1},
		{-math.MaxFloat64, -infRank},
		{inf, infRank},
		{-inf, -1 - infRank},
		{nan, infRank + 1},
	} {
		if got := edge.Rank(c.f); got != c.want {
			t.Errorf("Rank(%v): %d, want %d", c.f, got, c.want)
		}
		if got := edge.At(c.want); !one(got, c.f) {
			t.Errorf("At(%d): %v, want %v", c.want, got, c.f)
		}
	}
	for _, f := range nans() {
		if edge.Rank(f) != infRank+1 {
			t.Errorf("Rank of NaN %x: %d", math.Float64bits(f), edge.Rank(f))
		}
	}
}

func TestRankOfTheNextOneIsMoreByOne(t *testing.T) {
	source := rand.New(rand.NewSource(3))
	list := rising()
	for range 20000 {
		list = append(list, chance(source))
	}
	for _, f := range list {
		if f != f || f == inf {
			continue
		}
		next := math.Nextafter(f, inf)
		if f == 0 && math.Signbit(f) {
			next = 0
		} else if f == -least {
			next = minusZero
		}
		if edge.Rank(next) != edge.Rank(f)+1 {
			t.Fatalf("Rank(%v) %d, of the next one %v %d", f, edge.Rank(f), next, edge.Rank(next))
		}
	}
	if edge.Rank(nan) != edge.Rank(inf)+1 {
		t.Error("NaN isn't the next one of +Inf")
	}
}

func TestAtIsRankTurned(t *testing.T) {
	source := rand.New(rand.NewSource(4))
	for range 50000 {
		f := chance(source)
		if got := edge.At(edge.Rank(f)); !one(got, f) {
			t.Fatalf("At(Rank(%v)): %v", f, got)
		}
		rank := source.Int63n(infRank+2) * int64(1-2*source.Intn(2))
		if got := edge.Rank(edge.At(rank)); got != rank {
			t.Fatalf("Rank(At(%d)): %d", rank, got)
		}
	}
	for rank := int64(-1000); rank <= 1000; rank++ {
		if got := edge.Rank(edge.At(rank)); got != rank {
			t.Errorf("Rank(At(%d)): %d", rank, got)
		}
	}
}

func TestAtBeyondTheEnds(t *testing.T) {
	for _, rank := range []int64{-2 - infRank, -3 - infRank, -1 - infRank - 1<<51, math.MinInt64, math.MinInt64 + 1} {
		if got := edge.At(rank); got != -inf {
			t.Errorf("At(%d): %v, want -Inf", rank, got)
		}
	}
	for _, rank := range []int64{infRank + 1, infRank + 2, infRank + 1<<51, math.MaxInt64 - 1, math.MaxInt64} {
		if got := edge.At(rank); got == got {
			t.Errorf("At(%d): %v, want NaN", rank, got)
		}
	}
}

// P5.3

func TestLeastAndMostOfNone(t *testing.T) {
	for _, list := range [][]float64{nil, {}} {
		if got := edge.Least(list); got != inf {
			t.Errorf("Least of none: %v", got)
		}
		if got := edge.Most(list); got != -inf {
			t.Errorf("Most of none: %v", got)
		}
	}
}

func TestLeastAndMostOfOneAndOfTwo(t *testing.T) {
	list := rising()
	for i, a := range list {
		for j, b := range list {
			first, last := list[min(i, j)], list[max(i, j)]
			if got := edge.Least([]float64{a, b}); !one(got, first) {
				t.Errorf("Least of %v and %v: %v", a, b, got)
			}
			if got := edge.Most([]float64{a, b}); !one(got, last) {
				t.Errorf("Most of %v and %v: %v", a, b, got)
			}
		}
		if one := []float64{a}; order(edge.Least(one), a) != 0 || order(edge.Most(one), a) != 0 {
			t.Errorf("Least and Most of %v alone: %v, %v", a, edge.Least(one), edge.Most(one))
		}
	}
}

func TestLeastAndMostOfMany(t *testing.T) {
	source := rand.New(rand.NewSource(5))
	edges := rising()
	for range 5000 {
		var list []float64
		for range 1 + source.Intn(8) {
			if source.Intn(2) == 0 {
				list = append(list, edges[source.Intn(len(edges))])
			} else {
				list = append(list, chance(source))
			}
		}
		before := slices.Clone(list)
		sorted := slices.SortedFunc(slices.Values(list), order)
		if got := edge.Least(list); !one(got, sorted[0]) {
			t.Fatalf("Least(%v): %v", list, got)
		}
		if got := edge.Most(list); !one(got, sorted[len(sorted)-1]) {
			t.Fatalf("Most(%v): %v", list, got)
		}
		if !slices.EqualFunc(list, before, func(a, b float64) bool { return math.Float64bits(a) == math.Float64bits(b) }) {
			t.Fatal("the list was changed")
		}
	}
}

// P5.4

func TestPutKnown(t *testing.T) {
	for _, c := range []struct {
		f    float64
		want string
	}{
		{1, "\x3f\xf0\x00\x00\x00\x00\x00\x00"},
		{-2, "\xc0\x00\x00\x00\x00\x00\x00\x00"},
		{0, "\x00\x00\x00\x00\x00\x00\x00\x00"},
		{minusZero, "\x80\x00\x00\x00\x00\x00\x00\x00"},
		{least, "\x00\x00\x00\x00\x00\x00\x00\x01"},
		{-least, "\x80\x00\x00\x00\x00\x00\x00\x01"},
		{inf, "\x7f\xf0\x00\x00\x00\x00\x00\x00"},
		{-inf, "\xff\xf0\x00\x00\x00\x00\x00\x00"},
		{math.MaxFloat64, "\x7f\xef\xff\xff\xff\xff\xff\xff"},
		{0.1, "\x3f\xb9\x99\x99\x99\x99\x99\x9a"},
	} {
		if got := edge.Put(c.f); string(got) != c.want {
			t.Errorf("Put(%v): %x, want %x", c.f, got, c.want)
		}
	}
	for _, f := range nans() {
		if got := edge.Put(f); string(got) != "\x7f\xf8\x00\x00\x00\x00\x00\x00" {
			t.Errorf("Put of NaN %x: %x", math.Float64bits(f), got)
		}
	}
}

func TestGetTakesWhatPutAnswers(t *testing.T) {
	source := rand.New(rand.NewSource(6))
	list := append(rising(), nans()...)
	for range 20000 {
		list = append(list, chance(source))
	}
	for _, f := range list {
		b := edge.Put(f)
		if want := binary.BigEndian.AppendUint64(nil, math.Float64bits(f)); f == f && !bytes.Equal(b, want) {
			t.Fatalf("Put(%v): %x, want %x", f, b, want)
		}
		if got, errno := edge.Get(b); errno != api.OK || !one(got, f) {
			t.Fatalf("Get(Put(%v)): %v, %d", f, got, errno)
		}
	}
}

func TestGetOfEachLength(t *testing.T) {
	for _, c := range []byte{0, 0x3f, 0x7f, 0xff} {
		for n := range 40 {
			b := bytes.Repeat([]byte{c}, n)
			want := api.OK
			if n < 8 {
				want = api.ErrShort
			} else if n > 8 {
				want = api.ErrTail
			} else if c == 0xff {
				want = api.ErrForm
			}
			f, errno := edge.Get(b)
			if errno != want || errno != api.OK && !one(f, 0) {
				t.Errorf("Get of %d bytes %x: %v, %d, want %d", n, c, f, errno, want)
			}
		}
	}
	if f, errno := edge.Get(nil); !one(f, 0) || errno != api.ErrShort {
		t.Errorf("Get(nil): %v, %d", f, errno)
	}
}

func TestGetRefusesOtherNaN(t *testing.T) {
	source := rand.New(rand.NewSource(7))
	var list []uint64
	for i := range 52 {
		list = append(list, 0x7ff0<<48|1<<i, 0xfff0<<48|1<<i, 0x7ff8<<48|1<<i, 0xfff8<<48|1<<i)
	}
	for range 1000 {
		list = append(list, 0x7ff0<<48|source.Uint64()>>12|1, 0xfff0<<48|source.Uint64()>>12|1)
	}
	for _, bits := range list {
		want := api.ErrForm
		if bits == 0x7ff8<<48 {
			want = api.OK
		}
		f, errno := edge.Get(binary.BigEndian.AppendUint64(nil, bits))
		if errno != want || errno != api.OK && !one(f, 0) {
			t.Errorf("Get of %x: %v, %d, want %d", bits, f, errno, want)
		}
	}
}

func TestGetLeavesItsArgument(t *testing.T) {
	spare := append(make([]byte, 0, 16), edge.Put(1)...)
	whole := spare[:16]
	before := bytes.Clone(whole)
	if f, errno := edge.Get(spare); f != 1 || errno != api.OK {
		t.Errorf("Get: %v, %d", f, errno)
	}
	if !bytes.Equal(whole, before) {
		t.Error("the argument, or its spare room, was changed")
	}
}

func TestPutAnswersNewMemory(t *testing.T) {
	a := edge.Put(1)
	b := edge.Put(1)
	clear(a[:cap(a)])
	if !bytes.Equal(b, edge.Put(1)) {
		t.Error("two answers share their memory")
	}
}
