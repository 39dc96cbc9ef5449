package gauge_test

import (
	"bytes"
	"encoding/binary"
	"math"
	"math/big"
	"math/rand"
	"slices"
	"sort"
	"testing"

	"tabellion/api"
	"tabellion/bin"
	"tabellion/gauge"
)

var (
	inf       = math.Inf(1)
	minusZero = math.Copysign(0, -1)
	nan       = math.NaN()
	// oddNaN is a NaN of another form than that which is put.
	oddNaN = math.Float64frombits(0xfff0<<48 | 5)
)

// full is how many numbers a gauge has that takes no more.
const full = 1 << 53

// least is the least number above 0.
const least = math.SmallestNonzeroFloat64

// one tells whether two floats are one: their bits, or NaN both.
func one(a, b float64) bool {
	return a != a && b != b || math.Float64bits(a) == math.Float64bits(b)
}

// same tells whether two gauges are one.
func same(a, b api.Gauge) bool {
	return a.N == b.N && one(a.Mean, b.Mean) && one(a.Sum, b.Sum) && one(a.Least, b.Least) && one(a.Most, b.Most)
}

// kept tells whether two gauges have the same bits.
func kept(a, b api.Gauge) bool {
	bits := math.Float64bits
	return a.N == b.N && bits(a.Mean) == bits(b.Mean) && bits(a.Sum) == bits(b.Sum) && bits(a.Least) == bits(b.Least) && bits(a.Most) == bits(b.Most)
}

// place is a number that grows along layer 5's order.
func place(f float64) uint64 {
	bits := math.Float64bits(f)
	switch {
	case f != f:
		return 1<<64 - 1
	case bits>>63 == 1:
		return ^bits
	}
	return bits | 1<<63
}

// of answers the gauge of numbers, added one by one.
func of(list ...float64) api.Gauge {
	g := gauge.New()
	for _, x := range list {
		g = gauge.Add(g, x)
	}
	return g
}

// edges are floats of all kinds.
func edges() []float64 {
	return []float64{-inf, -math.MaxFloat64, -1e200, -3, -1, -0.1, -least, minusZero, 0, least, 0.1, 1, 3, 1e200, math.MaxFloat64, inf, nan}
}

// chance answers a float of any bits, or one at an edge, from a source that is the same in each run.
func chance(source *rand.Rand) float64 {
	if list := edges(); source.Intn(2) == 0 {
		return list[source.Intn(len(list))]
	}
	return math.Float64frombits(source.Uint64())
}

// chanceGauge answers any gauge, be it one of numbers or not.
func chanceGauge(source *rand.Rand) api.Gauge {
	n := source.Uint64() >> source.Intn(64)
	if source.Intn(4) == 0 {
		n = uint64(source.Intn(3))
	}
	return api.Gauge{N: n, Mean: chance(source), Sum: chance(source), Least: chance(source), Most: chance(source)}
}

// P6.1

func TestNewHasNothing(t *testing.T) {
	if g := gauge.New(); !same(g, api.Gauge{N: 0, Mean: nan, Sum: 0, Least: inf, Most: -inf}) {
		t.Errorf("New: %v", g)
	}
}

func TestAddKnown(t *testing.T) {
	for _, c := range []struct {
		list []float64
		want api.Gauge
	}{
		{[]float64{2}, api.Gauge{N: 1, Mean: 2, Sum: 0, Least: 2, Most: 2}},
		{[]float64{2, 4}, api.Gauge{N: 2, Mean: 3, Sum: 2, Least: 2, Most: 4}},
		{[]float64{4, 2}, api.Gauge{N: 2, Mean: 3, Sum: 2, Least: 2, Most: 4}},
		{[]float64{2, 4, 6}, api.Gauge{N: 3, Mean: 4, Sum: 8, Least: 2, Most: 6}},
		{[]float64{2, 4, 4, 4, 5, 5, 7, 9}, api.Gauge{N: 8, Mean: 5, Sum: 32, Least: 2, Most: 9}},
		{[]float64{-1, 1}, api.Gauge{N: 2, Mean: 0, Sum: 2, Least: -1, Most: 1}},
		{[]float64{minusZero}, api.Gauge{N: 1, Mean: minusZero, Sum: 0, Least: minusZero, Most: minusZero}},
		{[]float64{0, minusZero}, api.Gauge{N: 2, Mean: 0, Sum: 0, Least: minusZero, Most: 0}},
		{[]float64{minusZero, 0}, api.Gauge{N: 2, Mean: 0, Sum: 0, Least: minusZero, Most: 0}},
		{[]float64{inf}, api.Gauge{N: 1, Mean: inf, Sum: 0, Least: inf, Most: inf}},
		{[]float64{-inf}, api.Gauge{N: 1, Mean: -inf, Sum: 0, Least: -inf, Most: -inf}},
		{[]float64{inf, 1}, api.Gauge{N: 2, Mean: nan, Sum: nan, Least: 1, Most: inf}},
		{[]float64{1, inf}, api.Gauge{N: 2, Mean: inf, Sum: nan, Least: 1, Most: inf}},
		{[]float64{inf, inf}, api.Gauge{N: 2, Mean: nan, Sum: nan, Least: inf, Most: inf}},
		{[]float64{inf, 1, 2}, api.Gauge{N: 3, Mean: nan, Sum: nan, Least: 1, Most: inf}},
		{[]float64{math.MaxFloat64, -math.MaxFloat64}, api.Gauge{N: 2, Mean: -inf, Sum: -inf, Least: -math.MaxFloat64, Most: math.MaxFloat64}},
		{[]float64{1e200, 3e200}, api.Gauge{N: 2, Mean: 2e200, Sum: inf, Least: 1e200, Most: 3e200}},
		{[]float64{0, least}, api.Gauge{N: 2, Mean: 0, Sum: 0, Least: 0, Most: least}},
	} {
		if got := of(c.list...); !same(got, c.want) {
			t.Errorf("of %v: %v, want %v", c.list, got, c.want)
		}
	}
}

func TestAddLeavesNaN(t *testing.T) {
	source := rand.New(rand.NewSource(1))
	list := []api.Gauge{gauge.New(), of(2), of(2, 4), of(inf, 1), {}, {N: 1, Mean: oddNaN, Sum: oddNaN, Least: oddNaN, Most: oddNaN}}
	for range 1000 {
		list = append(list, chanceGauge(source))
	}
	for _, g := range list {
		for _, x := range []float64{nan, oddNaN, math.Float64frombits(0x7ff0<<48 | 1)} {
			if got := gauge.Add(g, x); !kept(got, g) {
				t.Fatalf("Add(%v, NaN): %v", g, got)
			}
		}
	}
}

func TestAddToAFullOne(t *testing.T) {
	for _, n := range []uint64{full, full + 1, 1 << 54, 1<<63 - 1, 1 << 63, math.MaxUint64} {
		g := api.Gauge{N: n, Mean: 3, Sum: 2, Least: 2, Most: 4}
		for _, x := range edges() {
			if got := gauge.Add(g, x); !kept(got, g) {
				t.Errorf("Add(%v, %v): %v", g, x, got)
			}
		}
	}
	g := api.Gauge{N: full - 1, Mean: 0, Sum: 5, Least: 0, Most: 0}
	want := api.Gauge{N: full, Mean: 1, Sum: full * (full - 1), Least: 0, Most: full}
	if got := gauge.Add(g, full); !same(got, want) {
		t.Errorf("Add to the last but one: %v, want %v", got, want)
	}
}

func TestAddToNoneTakesOnlyTheEnds(t *testing.T) {
	g := gauge.Add(api.Gauge{N: 0, Mean: 7, Sum: 9, Least: 1, Most: 3}, 2)
	if want := (api.Gauge{N: 1, Mean: 2, Sum: 0, Least: 1, Most: 3}); !same(g, want) {
		t.Errorf("Add to one of none: %v, want %v", g, want)
	}
	g = gauge.Add(api.Gauge{}, 2)
	if want := (api.Gauge{N: 1, Mean: 2, Sum: 0, Least: 0, Most: 2}); !same(g, want) {
		t.Errorf("Add to the zero gauge: %v, want %v", g, want)
	}
	g = gauge.Add(api.Gauge{N: 5, Mean: 2, Least: nan, Most: nan}, 2)
	if want := (api.Gauge{N: 6, Mean: 2, Sum: 0, Least: 2, Most: nan}); !same(g, want) {
		t.Errorf("Add to one with ends that are NaN: %v, want %v", g, want)
	}
}

func TestAddHoldsTheEndsByTheOrder(t *testing.T) {
	source := rand.New(rand.NewSource(2))
	for range 20000 {
		g, x := chanceGauge(source), chance(source)
		if x != x || g.N >= full {
			continue
		}
		low, high := g.Least, g.Most
		if place(x) < place(low) {
			low = x
		}
		if place(x) > place(high) {
			high = x
		}
		if got := gauge.Add(g, x); got.N != g.N+1 || !one(got.Least, low) || !one(got.Most, high) {
			t.Fatalf("Add(%v, %v): %v, want the ends %v and %v", g, x, got, low, high)
		}
	}
}

// wide is a float as a number of 53 digits, on which each operation rounds by itself.
func wide(f float64) *big.Float {
	return new(big.Float).SetPrec(53).SetFloat64(f)
}

// blank is where a result of 53 digits goes.
func blank() *big.Float {
	return new(big.Float).SetPrec(53)
}

// TestAddRoundsEachByItself holds the mean and the sum against numbers of 53 digits; the sizes are such that no exponent comes to its end.
func TestAddRoundsEachByItself(t *testing.T) {
	source := rand.New(rand.NewSource(3))
	for range 300 {
		g := gauge.New()
		mean, sum := blank(), blank()
		for n := range 100 {
			x := source.NormFloat64() * math.Pow(2, float64(source.Intn(20)))
			g = gauge.Add(g, x)
			if n == 0 {
				mean.SetFloat64(x)
			} else {
				d := blank().Sub(wide(x), mean)
				mean = blank().Add(mean, blank().Quo(d, wide(float64(n+1))))
				sum = blank().Add(sum, blank().Mul(d, blank().Sub(wide(x), mean)))
			}
			wantMean, _ := mean.Float64()
			wantSum, _ := sum.Float64()
			if g.N != uint64(n+1) || g.Mean != wantMean || g.Sum != wantSum {
				t.Fatalf("%v of %d numbers, want the mean %v and the sum %v", g, n+1, wantMean, wantSum)
			}
		}
	}
}

func TestAddComesNearWhatAllAtOnceSay(t *testing.T) {
	source := rand.New(rand.NewSource(4))
	for range 200 {
		var list []float64
		total := 0.0
		for range 1 + source.Intn(200) {
			x := source.NormFloat64() * 100
			list = append(list, x)
			total += x
		}
		mean, squares := total/float64(len(list)), 0.0
		for _, x := range list {
			squares += (x - mean) * (x - mean)
		}
		g := of(list...)
		if math.Abs(g.Mean-mean) > 1e-9 || math.Abs(g.Sum-squares) > 1e-6 || g.Least != slices.Min(list) || g.Most != slices.Max(list) {
			t.Fatalf("%v, want the mean %v and the sum %v", g, mean, squares)
		}
	}
}

// P6.2

func TestSpreadKnown(t *testing.T) {
	for _, c := range []struct {
		g    api.Gauge
		want float64
	}{
		{gauge.New(), nan},
		{api.Gauge{}, nan},
		{api.Gauge{N: 0, Mean: 1, Sum: 4}, nan},
		{of(2), 0},
		{of(2, 4), 1},
		{of(2, 4, 4, 4, 5, 5, 7, 9), 2},
		{of(inf), 0},
		{of(inf, 1), nan},
		{of(1e200, 3e200), inf},
		{api.Gauge{N: 4, Mean: nan, Sum: 36, Least: 5, Most: -5}, 3},
		{api.Gauge{N: 2, Sum: 4}, math.Sqrt2},
		{api.Gauge{N: 1, Sum: inf}, inf},
		{api.Gauge{N: 1, Sum: nan}, nan},
		{api.Gauge{N: 1, Sum: -least}, nan},
		{api.Gauge{N: 3, Sum: -1}, nan},
		{api.Gauge{N: 3, Sum: -inf}, nan},
		{api.Gauge{N: 3, Sum: minusZero}, minusZero},
		{api.Gauge{N: 3, Sum: 0}, 0},
		{api.Gauge{N: 4, Sum: least}, 0},
		{api.Gauge{N: 1 << 53, Sum: 1 << 55}, 2},
		{api.Gauge{N: 1 << 62, Sum: 1 << 62}, 1},
		{api.Gauge{N: math.MaxUint64, Sum: 1 << 64}, 1},
	} {
		if got := gauge.Spread(c.g); !one(got, c.want) {
			t.Errorf("Spread(%v): %v, want %v", c.g, got, c.want)
		}
	}
}

func TestSpreadIsTheRootOfTheQuotient(t *testing.T) {
	source := rand.New(rand.NewSource(5))
	for range 20000 {
		g := api.Gauge{N: 1 + source.Uint64()>>(11+source.Intn(53)), Mean: chance(source), Sum: source.ExpFloat64() * 1000}
		quotient, _ := blank().Quo(wide(g.Sum), wide(float64(g.N))).Float64()
		want, _ := blank().Sqrt(wide(quotient)).Float64()
		if got := gauge.Spread(g); got != want {
			t.Fatalf("Spread(%v): %v, want %v", g, got, want)
		}
	}
}

// P6.3

func TestRowsOfNone(t *testing.T) {
	for _, list := range [][]api.Gauge{nil, {}} {
		if got := gauge.Rows(list); len(got) != 0 {
			t.Errorf("Rows of none: %v", got)
		}
	}
	if got := gauge.Rows([]api.Gauge{gauge.New()}); !slices.Equal(got, []int{0}) {
		t.Errorf("Rows of one: %v", got)
	}
}

func TestRowsKnown(t *testing.T) {
	for _, c := range []struct {
		what string
		list []api.Gauge
		want []int
	}{
		{"by the mean", []api.Gauge{of(3), of(1), of(2)}, []int{1, 2, 0}},
		{"by the mean, whatever the spread", []api.Gauge{of(3), of(0, 2), of(2)}, []int{1, 2, 0}},
		{"by the spread", []api.Gauge{of(1, 5), of(3), of(2, 4)}, []int{1, 2, 0}},
		{"by the place", []api.Gauge{of(2, 4), of(3), of(4, 2), of(3)}, []int{1, 3, 0, 2}},
		{"the spread, not the sum", []api.Gauge{of(2, 4), of(2, 2, 4, 4), of(3)}, []int{2, 0, 1}},
		{"not by the count", []api.Gauge{of(3, 3, 3), of(3), of(3, 3)}, []int{0, 1, 2}},
		{"a mean that is NaN last", []api.Gauge{gauge.New(), of(inf), of(-inf), of(3)}, []int{2, 3, 1, 0}},
		{"NaN are one: then by the spread", []api.Gauge{{N: 1, Mean: nan, Sum: 4}, gauge.New(), {N: 1, Mean: oddNaN, Sum: 1}, {N: 1, Mean: nan, Sum: 2}}, []int{2, 3, 0, 1}},
		{"a spread that is NaN last", []api.Gauge{{N: 1, Mean: 2, Sum: -1}, {N: 1, Mean: 2, Sum: inf}, {N: 1, Mean: 2, Sum: 1}}, []int{2, 1, 0}},
		{"spreads that are NaN are one", []api.Gauge{{N: 1, Mean: 2, Sum: nan}, {N: 0, Mean: 2, Sum: 5}, {N: 1, Mean: 2, Sum: -1}, {N: 1, Mean: 2, Sum: oddNaN}}, []int{0, 1, 2, 3}},
		{"-0 ahead of 0, whatever the spread", []api.Gauge{{N: 1, Mean: 0, Sum: 1}, {N: 1, Mean: minusZero, Sum: 4}}, []int{1, 0}},
		{"a spread -0 ahead of 0", []api.Gauge{{N: 1, Mean: 1, Sum: 0}, {N: 1, Mean: 1, Sum: minusZero}}, []int{1, 0}},
	} {
		if got := gauge.Rows(c.list); !slices.Equal(got, c.want) {
			t.Errorf("%s: %v, want %v", c.what, got, c.want)
		}
	}
}

func TestRowsOfMany(t *testing.T) {
	source := rand.New(rand.NewSource(6))
	few := []float64{-1, minusZero, 0, 1, 4, inf, nan, oddNaN, -inf}
	for range 500 {
		list := make([]api.Gauge, source.Intn(60))
		for i := range list {
			list[i] = api.Gauge{N: uint64(source.Intn(3)), Mean: few[source.Intn(len(few))], Sum: few[source.Intn(len(few))], Least: chance(source), Most: chance(source)}
		}
		before := slices.Clone(list)
		want := make([]int, len(list))
		for i := range want {
			want[i] = i
		}
		sort.SliceStable(want, func(i, j int) bool {
			a, b := list[want[i]], list[want[j]]
			if place(a.Mean) != place(b.Mean) {
				return place(a.Mean) < place(b.Mean)
			}
			return place(gauge.Spread(a)) < place(gauge.Spread(b))
		})
		if got := gauge.Rows(list); !slices.Equal(got, want) {
			t.Fatalf("Rows(%v): %v, want %v", list, got, want)
		}
		if !slices.EqualFunc(list, before, kept) {
			t.Fatal("the list was changed")
		}
	}
}

func TestRowsAnswersNewMemory(t *testing.T) {
	list := []api.Gauge{of(3), of(1)}
	a, b := gauge.Rows(list), gauge.Rows(list)
	clear(a[:cap(a)])
	if !slices.Equal(b, []int{1, 0}) {
		t.Error("two answers share their memory")
	}
}

// P6.4

// bytesOf are a gauge's bytes, as the chapter says them.
func bytesOf(g api.Gauge) []byte {
	b := bin.Num(g.N)
	for _, f := range []float64{g.Mean, g.Sum, g.Least, g.Most} {
		bits := math.Float64bits(f)
		if f != f {
			bits = 0x7ff8 << 48
		}
		b = binary.BigEndian.AppendUint64(b, bits)
	}
	return b
}

func TestPutKnown(t *testing.T) {
	for _, c := range []struct {
		g    api.Gauge
		want string
	}{
		{of(2, 4), "\x01\x02" + "\x40\x08\x00\x00\x00\x00\x00\x00" + "\x40\x00\x00\x00\x00\x00\x00\x00" + "\x40\x00\x00\x00\x00\x00\x00\x00" + "\x40\x10\x00\x00\x00\x00\x00\x00"},
		{gauge.New(), "\x00" + "\x7f\xf8\x00\x00\x00\x00\x00\x00" + "\x00\x00\x00\x00\x00\x00\x00\x00" + "\x7f\xf0\x00\x00\x00\x00\x00\x00" + "\xff\xf0\x00\x00\x00\x00\x00\x00"},
		{api.Gauge{N: 256, Mean: oddNaN, Sum: 1, Least: minusZero, Most: inf}, "\x02\x01\x00" + "\x7f\xf8\x00\x00\x00\x00\x00\x00" + "\x3f\xf0\x00\x00\x00\x00\x00\x00" + "\x80\x00\x00\x00\x00\x00\x00\x00" + "\x7f\xf0\x00\x00\x00\x00\x00\x00"},
	} {
		if got := gauge.Put(c.g); string(got) != c.want {
			t.Errorf("Put(%v): %x, want %x", c.g, got, c.want)
		}
	}
}

func TestGetTakesWhatPutAnswers(t *testing.T) {
	source := rand.New(rand.NewSource(7))
	list := []api.Gauge{gauge.New(), {}, of(2), of(2, 4), of(inf, 1), {N: math.MaxUint64, Mean: 1}}
	for range 5000 {
		list = append(list, chanceGauge(source))
	}
	for _, g := range list {
		b := gauge.Put(g)
		if want := bytesOf(g); !bytes.Equal(b, want) {
			t.Fatalf("Put(%v): %x, want %x", g, b, want)
		}
		if got, errno := gauge.Get(b); errno != api.OK || !same(got, g) {
			t.Fatalf("Get(Put(%v)): %v, %d", g, got, errno)
		}
	}
}

// refuse asks that bytes are refused with an error, and beside it nothing.
func refuse(t *testing.T, what string, b []byte, want api.Errno) {
	t.Helper()
	if g, errno := gauge.Get(b); errno != want || !kept(g, api.Gauge{}) {
		t.Errorf("%s: %v, %d, want %d", what, g, errno, want)
	}
}

func TestGetOfEachLength(t *testing.T) {
	for _, g := range []api.Gauge{gauge.New(), of(2, 4), {N: 1 << 40, Mean: 1}, {N: math.MaxUint64, Mean: 1}} {
		whole := gauge.Put(g)
		for n := range len(whole) {
			refuse(t, "cut", whole[:n], api.ErrShort)
		}
		for n := 1; n < 100; n++ {
			refuse(t, "with bytes behind", append(bytes.Clone(whole), make([]byte, n)...), api.ErrTail)
		}
	}
	refuse(t, "nil", nil, api.ErrShort)
}

func TestGetOfNumbersThatAreNone(t *testing.T) {
	rest := gauge.Put(gauge.New())[1:]
	refuse(t, "a number of nine bytes", append([]byte{9, 1, 1, 1, 1, 1, 1, 1, 1, 1}, rest...), api.ErrForm)
	refuse(t, "a number of 255 bytes", append([]byte{255}, rest...), api.ErrForm)
	refuse(t, "a number in a longer form", append([]byte{2, 0, 1}, rest...), api.ErrForm)
	refuse(t, "a number 0 in a longer form", append([]byte{1, 0}, rest...), api.ErrForm)
	refuse(t, "a number that says nothing, alone", []byte{9}, api.ErrForm)
	refuse(t, "a number that says nothing, with bytes behind", append([]byte{1, 0}, make([]byte, 50)...), api.ErrForm)
	refuse(t, "a number that is cut", []byte{8, 1, 2}, api.ErrShort)
}

func TestGetOfFloatsThatAreNone(t *testing.T) {
	for _, bits := range []uint64{0x7ff0<<48 | 1, 0x7ff8<<48 | 1, 0xfff8 << 48, 1<<64 - 1} {
		for at := range 4 {
			b := gauge.Put(of(2, 4))
			binary.BigEndian.PutUint64(b[2+8*at:], bits)
			refuse(t, "a NaN of another form", b, api.ErrForm)
			refuse(t, "a NaN of another form, with a byte behind", append(b, 0), api.ErrForm)
			refuse(t, "a NaN of another form, cut", b[:len(b)-1], api.ErrShort)
		}
	}
	b := append(gauge.Put(of(2, 4)), 0xff, 0xff, 0xff, 0xff, 0xff, 0xff, 0xff, 0xff)
	refuse(t, "a NaN of another form behind all", b, api.ErrTail)
}

func TestGetLeavesItsArgument(t *testing.T) {
	b := gauge.Put(of(2, 4))
	whole := append(make([]byte, 0, 64), b...)[:64]
	before := bytes.Clone(whole)
	if g, errno := gauge.Get(whole[:len(b)]); errno != api.OK || !same(g, of(2, 4)) {
		t.Errorf("Get: %v, %d", g, errno)
	}
	if !bytes.Equal(whole, before) {
		t.Error("the argument, or its spare room, was changed")
	}
}

func TestPutAnswersNewMemory(t *testing.T) {
	a, b := gauge.Put(of(2, 4)), gauge.Put(of(2, 4))
	clear(a[:cap(a)])
	if !bytes.Equal(b, bytesOf(of(2, 4))) {
		t.Error("two answers share their memory")
	}
}
