package crc_test

import (
	"bytes"
	"math"
	"math/rand"
	"testing"

	"tabellion/crc"
)

// register works a text through a register bit by bit, as the chapter says it.
func register(from uint32, b []byte) uint32 {
	for _, c := range b {
		from ^= uint32(c)
		for range 8 {
			out := from & 1
			from >>= 1
			if out == 1 {
				from ^= 0x82f63b78
			}
		}
	}
	return from
}

// sum is the sum of a text by the chapter's words.
func sum(b []byte) uint32 {
	return ^register(math.MaxUint32, b)
}

// chance answers n bytes of a source that is the same in each run.
func chance(source *rand.Rand, n int) []byte {
	b := make([]byte, n)
	for i := range b {
		b[i] = byte(source.Intn(256))
	}
	return b
}

// count answers n bytes that count from a first one on, by a step.
func count(first, step, n int) []byte {
	b := make([]byte, n)
	for i := range b {
		b[i] = byte(first + i*step)
	}
	return b
}

// sums answers registers and sums of all kinds.
func sums() []uint32 {
	list := []uint32{0, 1, 2, 3, 0xff, 0x100, 0x82f63b78, math.MaxInt32, 1 << 31, 1<<31 + 1, math.MaxUint32 - 1, math.MaxUint32}
	source := rand.New(rand.NewSource(1))
	for range 8 {
		list = append(list, source.Uint32())
	}
	return list
}

// P2.1

func TestSumOfKnownTexts(t *testing.T) {
	for _, c := range []struct {
		text []byte
		want uint32
	}{
		{nil, 0},
		{[]byte{}, 0},
		{[]byte("a"), 0xc1d04330},
		{[]byte("123456789"), 0xe3069283},
		{make([]byte, 32), 0x8a9136aa},
		{bytes.Repeat([]byte{0xff}, 32), 0x62a8ab43},
		{count(0, 1, 32), 0x46dd794e},
		{count(31, -1, 32), 0x113fdb5c},
	} {
		if got := crc.Sum(c.text); got != c.want {
			t.Errorf("Sum(%x): %08x, want %08x", c.text, got, c.want)
		}
	}
}

func TestSumIsTheOneOfTheWords(t *testing.T) {
	for c := range 256 {
		if b := []byte{byte(c)}; crc.Sum(b) != sum(b) {
			t.Errorf("Sum(%x): %08x, want %08x", b, crc.Sum(b), sum(b))
		}
	}
	source := rand.New(rand.NewSource(2))
	for n := range 300 {
		if b := chance(source, n); crc.Sum(b) != sum(b) {
			t.Errorf("Sum(%x): %08x, want %08x", b, crc.Sum(b), sum(b))
		}
	}
	if b := chance(source, 1<<17+3); crc.Sum(b) != sum(b) {
		t.Errorf("Sum of %d bytes: %08x, want %08x", len(b), crc.Sum(b), sum(b))
	}
}

func TestMoreGoesOnBehindEachPiece(t *testing.T) {
	whole := chance(rand.New(rand.NewSource(3)), 70)
	for first := range len(whole) + 1 {
		for second := first; second <= len(whole); second++ {
			got := crc.More(crc.More(crc.Sum(whole[:first]), whole[first:second]), whole[second:])
			if got != sum(whole) {
				t.Fatalf("More of pieces of %d, %d, %d: %08x, want %08x", first, second-first, len(whole)-second, got, sum(whole))
			}
		}
	}
}

func TestMoreOfAnySum(t *testing.T) {
	for _, s := range sums() {
		for _, b := range [][]byte{nil, {}, {0}, {0xff}, []byte("123456789"), make([]byte, 33), count(7, 3, 100)} {
			if got, want := crc.More(s, b), ^register(^s, b); got != want {
				t.Errorf("More(%08x, %x): %08x, want %08x", s, b, got, want)
			}
		}
	}
}

func TestTextIsLeftAsItIs(t *testing.T) {
	full := count(1, 5, 40)
	crc.Sum(full[:20])
	crc.More(99, full[10:20])
	if !bytes.Equal(full, count(1, 5, 40)) {
		t.Errorf("the text is now %x", full)
	}
}

// P2.2

func TestJoinOfTexts(t *testing.T) {
	source := rand.New(rand.NewSource(4))
	for first := range 40 {
		for second := range 70 {
			a, b := chance(source, first), chance(source, second)
			want := sum(append(append([]byte{}, a...), b...))
			if got := crc.Join(sum(a), sum(b), uint64(second)); got != want {
				t.Fatalf("Join of %d and %d bytes: %08x, want %08x", first, second, got, want)
			}
		}
	}
	for _, n := range []int{255, 256, 257, 65535, 65536, 1 << 18} {
		a, b := chance(source, 100), chance(source, n)
		want := sum(append(append([]byte{}, a...), b...))
		if got := crc.Join(sum(a), sum(b), uint64(n)); got != want {
			t.Errorf("Join of 100 and %d bytes: %08x, want %08x", n, got, want)
		}
	}
}

func TestJoinOfAnySums(t *testing.T) {
	for _, a := range sums() {
		for _, b := range sums() {
			for _, n := range []int{0, 1, 2, 3, 4, 5, 8, 15, 16, 17, 64, 1000} {
				want := register(a, make([]byte, n)) ^ b
				if got := crc.Join(a, b, uint64(n)); got != want {
					t.Fatalf("Join(%08x, %08x, %d): %08x, want %08x", a, b, n, got, want)
				}
			}
		}
	}
	if got := crc.Join(77, 0, 0); got != 77 {
		t.Errorf("Join(77, 0, 0): %d", got)
	}
}

// The registers come round after 2^31 - 1 bits 0, since the polynomial is that of x + 1 and one of the power 31 that no
// lesser one divides; so great numbers of bytes can be told by lesser ones, with no word of how Join works.
func TestJoinOfGreatNumbers(t *testing.T) {
	const round = math.MaxInt32
	for _, n := range []uint64{
		round - 1, round, round + 1, round + 5, 1 << 31, 1<<31 + 3, math.MaxUint32, 1 << 32, 1<<32 + 9,
		1 << 60, 1 << 61, 1<<61 + 1, 1 << 62, math.MaxInt64, 1 << 63, 1<<63 + 1, math.MaxUint64 - 1, math.MaxUint64,
	} {
		for _, a := range sums() {
			want := crc.Join(a, 5, n%round)
			if n%round < 2000 {
				want = register(a, make([]byte, n%round)) ^ 5
			}
			if got := crc.Join(a, 5, n); got != want {
				t.Errorf("Join(%08x, 5, %d): %08x, want %08x", a, n, got, want)
			}
			half := n / 2
			if parts := crc.Join(crc.Join(a, 0, half), 5, n-half); parts != want {
				t.Errorf("Join(%08x, 5, %d) by halves: %08x, want %08x", a, n, parts, want)
			}
		}
	}
}

// P2.3

// turned answers a text with those bits turned, from a place on, that are 1 in the run.
func turned(b []byte, place int, run uint32) []byte {
	out := append([]byte{}, b...)
	for i := range 32 {
		if run>>i&1 == 1 {
			out[(place+i)/8] ^= 1 << ((place + i) % 8)
		}
	}
	return out
}

func TestTurnedRunsAreTold(t *testing.T) {
	source := rand.New(rand.NewSource(5))
	for _, n := range []int{4, 5, 6, 9, 16, 61} {
		b := chance(source, n)
		was := crc.Sum(b)
		for place := range 8*n - 31 {
			for _, run := range runs(source) {
				if crc.Sum(turned(b, place, run)) == was {
					t.Fatalf("Sum(%x) is the same with the run %08x turned at %d", b, run, place)
				}
			}
		}
	}
}

// runs answers runs of each width up to 32 bits.
func runs(source *rand.Rand) []uint32 {
	list := []uint32{math.MaxUint32, 0x82f63b78, 0xdb710641, 0x05ec76f1}
	for i := range 32 {
		ends := uint32(1)<<i | 1
		list = append(list, 1<<i, ends, ends|source.Uint32()&(1<<i-1), 1<<i-1|1)
	}
	return list
}

func TestTurnedRunsOfShortTextsAreTold(t *testing.T) {
	for _, b := range [][]byte{{0}, {0xff}, {'a'}, {0, 0}, {7, 9}} {
		for run := 1; run < 1<<(8*len(b)); run++ {
			other := append([]byte{}, b...)
			for i := range other {
				other[i] ^= byte(run >> (8 * i))
			}
			if crc.Sum(other) == crc.Sum(b) {
				t.Fatalf("Sum(%x) is Sum(%x)", other, b)
			}
		}
	}
}
