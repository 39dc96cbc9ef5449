package split_test

import (
	"math"
	"math/rand"
	"testing"

	"tabellion/api"
	"tabellion/split"
)

// below is the greatest power of 2 below n, or 0, by trying them all.
func below(n uint64) uint64 {
	var last uint64
	for bit := range 64 {
		if power := uint64(1) << bit; power < n {
			last = power
		}
	}
	return last
}

func TestFewLeaves(t *testing.T) {
	for n, want := range []uint64{0, 0, 1, 2, 2, 4, 4, 4, 4, 8} {
		if got := split.At(uint64(n)); got != want {
			t.Errorf("At(%d): %d, want %d", n, got, want)
		}
	}
}

func TestPowersAndBetween(t *testing.T) {
	source := rand.New(rand.NewSource(1))
	list := []uint64{math.MaxUint64, math.MaxUint64 - 1}
	for bit := 1; bit < 64; bit++ {
		power := uint64(1) << bit
		list = append(list, power, power+1, power|power>>1, 2*power-1, power|source.Uint64()&(power-1))
	}
	for _, n := range list {
		if got, want := split.At(n), below(n); got != want {
			t.Errorf("At(%d): %d, want %d", n, got, want)
		}
	}
}

func TestLength(t *testing.T) {
	for has := range 70 {
		for needs := range 70 {
			want := api.OK
			if has < needs {
				want = api.ErrShort
			} else if has > needs {
				want = api.ErrLong
			}
			if got := split.Length(has, needs); got != want {
				t.Errorf("Length(%d, %d): %d, want %d", has, needs, got, want)
			}
		}
	}
}
