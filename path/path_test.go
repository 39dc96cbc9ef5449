package path_test

import (
	"encoding/hex"
	"math"
	"math/rand"
	"slices"
	"testing"

	"tabellion/api"
	"tabellion/leaf"
	"tabellion/path"
)

// widths are some in whole bytes and some not, and some outside of 0 to 256.
var widths = []int{256, 255, 248, 129, 64, 33, 12, 8, 7, 1, 0, -1, math.MinInt, 257, 1000, math.MaxInt}

// hashes answers n hashes of a source that is the same in each run, with all their bits.
func hashes(source *rand.Rand, n int) []api.Hash {
	list := make([]api.Hash, n)
	for i := range list {
		for k := range list[i] {
			list[i][k] = byte(source.Intn(256))
		}
	}
	return list
}

// audit is the proof of leaf i, made from below: in each row of the tree the other one of its pair, if there is one.
func audit(w int, leaves []api.Hash, i int) []api.Hash {
	var proof []api.Hash
	row := slices.Clone(leaves)
	for len(row) > 1 {
		if i^1 < len(row) {
			proof = append(proof, row[i^1])
		}
		var next []api.Hash
		for pair := range slices.Chunk(row, 2) {
			if len(pair) == 2 {
				pair[0] = leaf.Node(w, pair[0], pair[1])
			}
			next = append(next, pair[0])
		}
		row, i = next, i/2
	}
	return proof
}

// size is how many of a tree's rows have another one beside the place of leaf i.
func size(i, n uint64) int {
	count := 0
	for last := n - 1; last > 0; i, last = i/2, last/2 {
		if i^1 <= last {
			count++
		}
	}
	return count
}

// climbed is what a proof of the right length comes to, from below as RFC 9162 (2.1.3.2) has it.
func climbed(w int, h api.Hash, i, n uint64, proof []api.Hash) api.Hash {
	last := n - 1
	for _, p := range proof {
		if i%2 == 1 || i == last {
			h = leaf.Node(w, p, h)
			for i%2 == 0 && i != 0 {
				i, last = i/2, last/2
			}
		} else {
			h = leaf.Node(w, h, p)
		}
		i, last = i/2, last/2
	}
	return h
}

// place is a leaf's number, and how many there are.
type place struct{ i, n uint64 }

// places are all of small trees, and those at the edges of greater ones, and some by chance.
func places(source *rand.Rand) []place {
	var list []place
	for n := range uint64(35) {
		for i := range n {
			list = append(list, place{i, n})
		}
	}
	sizes := []uint64{math.MaxUint64, math.MaxUint64 - 1, 0x5555555555555555, 0xaaaaaaaaaaaaaaaa}
	for bit := 5; bit < 64; bit++ {
		power := uint64(1) << bit
		sizes = append(sizes, power-1, power, power+1, power|power>>1, power|source.Uint64()&(power-1))
	}
	for _, n := range sizes {
		half := uint64(1) << 63
		for half >= n {
			half /= 2
		}
		list = append(list, place{0, n}, place{1, n}, place{half - 1, n}, place{half, n}, place{n - 2, n}, place{n - 1, n}, place{source.Uint64() % n, n})
	}
	return list
}

// outside are places that no tree has.
func outside() []place {
	var list []place
	for n := range uint64(20) {
		for i := n; i < 2*n+3; i++ {
			list = append(list, place{i, n})
		}
		list = append(list, place{math.MaxInt64, n}, place{1 << 63, n}, place{math.MaxUint64, n})
	}
	return append(list, place{math.MaxUint64, math.MaxUint64}, place{math.MaxUint64, math.MaxUint64 - 1}, place{1 << 63, 1 << 63}, place{1<<63 + 1, 1 << 63})
}

// proved answers the proof of leaf i of the first n leaves.
func proved(t *testing.T, w int, leaves []api.Hash, i, n int) []api.Hash {
	t.Helper()
	proof, errno := path.Prove(w, leaves, i, n)
	if errno != api.OK {
		t.Fatalf("Prove of leaf %d of %d, %d bits wide: %d", i, n, w, errno)
	}
	return proof
}

// P15.1

func TestSizeKnown(t *testing.T) {
	for _, c := range []struct {
		i, n uint64
		want int
	}{
		{0, 1, 0}, {0, 2, 1}, {1, 2, 1},
		{0, 3, 2}, {1, 3, 2}, {2, 3, 1},
		{3, 5, 3}, {4, 5, 1}, {4, 6, 2}, {4, 7, 3}, {6, 7, 2}, {7, 8, 3}, {8, 9, 1},
		{0, 1 << 63, 63}, {1<<63 - 1, 1 << 63, 63},
		{0, 1<<63 + 1, 64}, {1 << 63, 1<<63 + 1, 1}, {1 << 63, 1<<63 + 2, 2},
		{0, math.MaxUint64, 64}, {1 << 63, math.MaxUint64, 64}, {math.MaxUint64 - 1, math.MaxUint64, 63},
	} {
		if got := path.Size(c.i, c.n); got != c.want {
			t.Errorf("Size(%d, %d): %d, want %d", c.i, c.n, got, c.want)
		}
	}
}

func TestSizeOfEachPlace(t *testing.T) {
	for _, p := range places(rand.New(rand.NewSource(1))) {
		if got, want := path.Size(p.i, p.n), size(p.i, p.n); got != want {
			t.Errorf("Size(%d, %d): %d, want %d", p.i, p.n, got, want)
		}
	}
}

func TestSizeOutside(t *testing.T) {
	for _, p := range outside() {
		if got := path.Size(p.i, p.n); got != 0 {
			t.Errorf("Size(%d, %d): %d", p.i, p.n, got)
		}
	}
}

// P15.2

func TestProveExamples(t *testing.T) {
	list := hashes(rand.New(rand.NewSource(2)), 3)
	a, b, c := list[0], list[1], list[2]
	for i, want := range [][]api.Hash{{b, c}, {a, c}, {leaf.Node(256, a, b)}} {
		if got := proved(t, 256, list, i, 3); !slices.Equal(got, want) {
			t.Errorf("the proof of leaf %d of three: %x, want %x", i, got, want)
		}
	}
}

// The proofs that the tests of Certificate Transparency have.
func TestProveKnown(t *testing.T) {
	data := []string{"", "\x00", "\x10", "\x20\x21", "\x30\x31", "\x40\x41\x42\x43", "\x50\x51\x52\x53\x54\x55\x56\x57", "\x60\x61\x62\x63\x64\x65\x66\x67\x68\x69\x6a\x6b\x6c\x6d\x6e\x6f"}
	var leaves []api.Hash
	for _, text := range data {
		leaves = append(leaves, leaf.Leaf(256, []byte(text)))
	}
	for _, c := range []struct {
		i, n int
		want []string
	}{
		{0, 1, nil},
		{0, 8, []string{
			"96a296d224f285c67bee93c30f8a309157f0daa35dc5b87e410b78630a09cfc7",
			"5f083f0a1a33ca076a95279832580db3e0ef4584bdff1f54c8a360f50de3031e",
			"6b47aaf29ee3c2af9af889bc1fb9254dabd31177f16232dd6aab035ca39bf6e4",
		}},
		{5, 8, []string{
			"bc1a0643b12e4d2d7c77918f44e0f4f79a838b6cf9ec5b5c283e1f4d88599e6b",
			"ca854ea128ed050b41b35ffc1b87b8eb2bde461e9e3b5596ece6b9d5975a0ae0",
			"d37ee418976dd95753c1c73862b9398fa2a2cf9b4ff0fdfe8b30cd95209614b7",
		}},
		{2, 3, []string{"fac54203e7cc696cf0dfcb42c92a1d9dbaf70ad9e621f4bd8d98662f00e3c125"}},
		{1, 5, []string{
			"6e340b9cffb37a989ca544e6bb780a2c78901d3fb33738768511a30617afa01d",
			"5f083f0a1a33ca076a95279832580db3e0ef4584bdff1f54c8a360f50de3031e",
			"bc1a0643b12e4d2d7c77918f44e0f4f79a838b6cf9ec5b5c283e1f4d88599e6b",
		}},
	} {
		var got []string
		for _, h := range proved(t, 256, leaves, c.i, c.n) {
			got = append(got, hex.EncodeToString(h[:]))
		}
		if !slices.Equal(got, c.want) {
			t.Errorf("the proof of leaf %d of %d: %s, want %s", c.i, c.n, got, c.want)
		}
	}
}

func TestProofOfOneLeaf(t *testing.T) {
	leaves := hashes(rand.New(rand.NewSource(3)), 5)
	for _, w := range widths {
		for more := 1; more <= len(leaves); more++ {
			if got, errno := path.Prove(w, leaves[:more], 0, 1); errno != api.OK || len(got) != 0 {
				t.Errorf("the proof of one leaf of %d, %d bits wide: %x, %d", more, w, got, errno)
			}
		}
	}
}

// The leaves behind the first n change nothing.
func TestProofOfEachLeaf(t *testing.T) {
	leaves := hashes(rand.New(rand.NewSource(4)), 70)
	for n := 1; n <= len(leaves); n++ {
		for i := range n {
			for _, w := range []int{256, 100, 12, 0} {
				want := audit(w, leaves[:n], i)
				for _, list := range [][]api.Hash{leaves[:n], leaves} {
					if got := proved(t, w, list, i, n); !slices.Equal(got, want) {
						t.Fatalf("the proof of leaf %d of %d, %d bits wide: %x, want %x", i, n, w, got, want)
					}
				}
				if len(want) != path.Size(uint64(i), uint64(n)) {
					t.Fatalf("Size(%d, %d): %d, the proof has %d", i, n, path.Size(uint64(i), uint64(n)), len(want))
				}
			}
		}
	}
}

func TestProofOfEachWidth(t *testing.T) {
	leaves := hashes(rand.New(rand.NewSource(5)), 13)
	list := slices.Clone(widths)
	for w := -10; w < 270; w++ {
		list = append(list, w)
	}
	for _, w := range list {
		for i := range leaves {
			if got, want := proved(t, w, leaves, i, len(leaves)), audit(w, leaves, i); !slices.Equal(got, want) {
				t.Fatalf("the proof of leaf %d of 13, %d bits wide: %x, want %x", i, w, got, want)
			}
		}
	}
}

func TestProveOutside(t *testing.T) {
	leaves := hashes(rand.New(rand.NewSource(6)), 12)
	numbers := []int{math.MinInt, math.MinInt + 1, -1 << 32, -2, -1, math.MaxInt32, 1 << 32, math.MaxInt - 1, math.MaxInt}
	for n := range 20 {
		numbers = append(numbers, n)
	}
	for have := range len(leaves) + 1 {
		for _, n := range numbers {
			for _, i := range numbers {
				got, errno := path.Prove(256, leaves[:have], i, n)
				there := 1 <= n && n <= have && 0 <= i && i < n
				if there && errno != api.OK || !there && (errno != api.ErrRange || len(got) != 0) {
					t.Fatalf("Prove of leaf %d of %d, of %d leaves: %x, %d", i, n, have, got, errno)
				}
			}
		}
	}
}

func TestProveOfNothing(t *testing.T) {
	for _, leaves := range [][]api.Hash{nil, {}} {
		for _, n := range []int{-1, 0, 1, 2} {
			if got, errno := path.Prove(256, leaves, 0, n); errno != api.ErrRange || len(got) != 0 {
				t.Errorf("Prove of leaf 0 of %d, of no leaves: %x, %d", n, got, errno)
			}
		}
	}
}

func TestProveLeavesTheLeaves(t *testing.T) {
	was := hashes(rand.New(rand.NewSource(7)), 40)
	full := slices.Clone(was)
	for n := 1; n <= 20; n++ {
		for i := range n {
			proof := proved(t, 256, full[:25], i, n)
			clear(proof[:cap(proof)])
			if !slices.Equal(full, was) {
				t.Fatalf("the proof of leaf %d of %d: the leaves, or their spare room, were changed, or are shared", i, n)
			}
		}
	}
}

func TestProofsShareNothing(t *testing.T) {
	leaves := hashes(rand.New(rand.NewSource(8)), 9)
	for i := range leaves {
		first, second := proved(t, 256, leaves, i, 9), proved(t, 256, leaves, i, 9)
		clear(first[:cap(first)])
		if !slices.Equal(second, audit(256, leaves, i)) {
			t.Errorf("two proofs of leaf %d share memory", i)
		}
	}
}

// P15.3

// Whatever the hashes of a proof are, and however great the tree is.
func TestClimbFromEachPlace(t *testing.T) {
	source := rand.New(rand.NewSource(9))
	for _, p := range places(source) {
		h, proof := hashes(source, 1)[0], hashes(source, size(p.i, p.n))
		for _, w := range []int{256, 12, 0} {
			want := climbed(w, h, p.i, p.n, proof)
			if got, errno := path.Climb(w, h, p.i, p.n, proof); errno != api.OK || got != want {
				t.Fatalf("Climb from leaf %d of %d, %d bits wide: %x, %d, want %x", p.i, p.n, w, got, errno, want)
			}
			if !path.Check(w, h, p.i, p.n, proof, want) {
				t.Fatalf("Check of leaf %d of %d, %d bits wide: false", p.i, p.n, w)
			}
		}
	}
}

func TestClimbOfEachWidth(t *testing.T) {
	source := rand.New(rand.NewSource(10))
	list := slices.Clone(widths)
	for w := -10; w < 270; w++ {
		list = append(list, w)
	}
	for i := range uint64(11) {
		h, proof := hashes(source, 1)[0], hashes(source, size(i, 11))
		for _, w := range list {
			want := climbed(w, h, i, 11, proof)
			if got, errno := path.Climb(w, h, i, 11, proof); errno != api.OK || got != want {
				t.Fatalf("Climb from leaf %d of 11, %d bits wide: %x, %d, want %x", i, w, got, errno, want)
			}
		}
	}
}

// One leaf is the root as it is, be it wider than the tree too.
func TestClimbOfOneLeaf(t *testing.T) {
	h := hashes(rand.New(rand.NewSource(11)), 1)[0]
	for _, w := range widths {
		for _, proof := range [][]api.Hash{nil, {}} {
			if got, errno := path.Climb(w, h, 0, 1, proof); errno != api.OK || got != h {
				t.Errorf("Climb of one leaf, %d bits wide: %x, %d", w, got, errno)
			}
			if !path.Check(w, h, 0, 1, proof, h) || path.Check(w, h, 0, 1, proof, api.Hash{}) {
				t.Errorf("Check of one leaf, %d bits wide", w)
			}
		}
	}
}

// A proof isn't taken for another one's, neither by a part of it nor with more behind. No root passes then, nor the zero one.
func TestClimbByWrongLength(t *testing.T) {
	source := rand.New(rand.NewSource(12))
	proof := hashes(source, 70)
	h := proof[0]
	for _, p := range places(source) {
		right := size(p.i, p.n)
		for _, n := range []int{0, 1, 2, right / 2, right - 1, right + 1, right + 2, 63, 64, 65, 70} {
			if n == right || n < 0 {
				continue
			}
			want := api.ErrShort
			if n > right {
				want = api.ErrLong
			}
			got, errno := path.Climb(256, h, p.i, p.n, proof[:n])
			if errno != want || got != (api.Hash{}) {
				t.Fatalf("Climb from leaf %d of %d by %d hashes: %x, %d, want %d", p.i, p.n, n, got, errno, want)
			}
			if path.Check(256, h, p.i, p.n, proof[:n], api.Hash{}) || path.Check(256, h, p.i, p.n, proof[:n], h) {
				t.Fatalf("Check of leaf %d of %d by %d hashes", p.i, p.n, n)
			}
		}
	}
}

// A place that isn't there is told ahead of a proof's length.
func TestClimbOutside(t *testing.T) {
	proof := hashes(rand.New(rand.NewSource(13)), 66)
	h := proof[0]
	for _, p := range outside() {
		for _, n := range []int{0, 1, 2, 5, 63, 64, 65, 66} {
			for _, w := range []int{256, 0} {
				if got, errno := path.Climb(w, h, p.i, p.n, proof[:n]); errno != api.ErrRange || got != (api.Hash{}) {
					t.Fatalf("Climb from leaf %d of %d by %d hashes: %x, %d", p.i, p.n, n, got, errno)
				}
				if path.Check(w, h, p.i, p.n, proof[:n], api.Hash{}) || path.Check(w, h, p.i, p.n, proof[:n], h) {
					t.Fatalf("Check of leaf %d of %d by %d hashes", p.i, p.n, n)
				}
			}
		}
	}
}

// Each bit of the leaf, of the proof and of the root counts.
func TestCheckOfTurnedBits(t *testing.T) {
	source := rand.New(rand.NewSource(14))
	leaves := hashes(source, 11)
	root := leaf.Root(256, leaves)
	for i, h := range leaves {
		proof := proved(t, 256, leaves, i, len(leaves))
		passes := func() bool { return path.Check(256, h, uint64(i), uint64(len(leaves)), proof, root) }
		parts := []*api.Hash{&h, &root}
		for k := range proof {
			parts = append(parts, &proof[k])
		}
		for bit := range 256 {
			for _, part := range parts {
				part[bit/8] ^= 0x80 >> (bit % 8)
				if passes() {
					t.Fatalf("Check of leaf %d passes with a bit turned", i)
				}
				part[bit/8] ^= 0x80 >> (bit % 8)
			}
		}
		if !passes() {
			t.Fatalf("Check of leaf %d", i)
		}
	}
}

// What passes at one place passes at no other one.
func TestCheckAtOtherPlaces(t *testing.T) {
	leaves := hashes(rand.New(rand.NewSource(15)), 20)
	for n := 1; n <= len(leaves); n++ {
		root := leaf.Root(256, leaves[:n])
		for i := range n {
			proof := proved(t, 256, leaves, i, n)
			for other := range uint64(n + 3) {
				if got := path.Check(256, leaves[i], other, uint64(n), proof, root); got != (other == uint64(i)) {
					t.Fatalf("Check of leaf %d of %d at place %d: %v", i, n, other, got)
				}
			}
		}
	}
}

// Where all hashes are one, whatever has the right length passes, and nothing else.
func TestCheckOfNoBits(t *testing.T) {
	source := rand.New(rand.NewSource(16))
	for _, w := range []int{0, -1, math.MinInt} {
		for n := uint64(2); n < 20; n++ {
			for i := range n {
				h, proof := hashes(source, 1)[0], hashes(source, size(i, n))
				if !path.Check(w, h, i, n, proof, api.Hash{}) || path.Check(w, h, i, n, proof, h) || path.Check(w, h, i, n, proof[1:], api.Hash{}) {
					t.Fatalf("Check of leaf %d of %d, %d bits wide", i, n, w)
				}
			}
		}
	}
}

// Only the climb's hashes are narrowed: a root that is like it in its first bits doesn't pass.
func TestCheckOfWiderRoot(t *testing.T) {
	leaves := hashes(rand.New(rand.NewSource(17)), 6)
	root := leaf.Root(12, leaves)
	proof := proved(t, 12, leaves, 3, 6)
	wider := root
	wider[31] = 1
	if !path.Check(12, leaves[3], 3, 6, proof, root) || path.Check(12, leaves[3], 3, 6, proof, wider) {
		t.Errorf("Check against %x and %x", root, wider)
	}
}

func TestClimbLeavesTheProof(t *testing.T) {
	source := rand.New(rand.NewSource(18))
	was := hashes(source, 80)
	full := slices.Clone(was)
	for _, p := range places(source) {
		path.Climb(256, was[0], p.i, p.n, full[:size(p.i, p.n)])
		path.Check(256, was[0], p.i, p.n, full[:size(p.i, p.n)], was[1])
	}
	if !slices.Equal(full, was) {
		t.Error("the proof, or its spare room, was changed")
	}
}

// P15.4

func TestProofsPass(t *testing.T) {
	leaves := hashes(rand.New(rand.NewSource(19)), 70)
	for n := 1; n <= len(leaves); n++ {
		for _, w := range []int{256, 33, 8, 1, 0, -1, math.MaxInt} {
			root := leaf.Root(w, leaves[:n])
			for i := range n {
				proof := proved(t, w, leaves, i, n)
				if got, errno := path.Climb(w, leaves[i], uint64(i), uint64(n), proof); errno != api.OK || got != root {
					t.Fatalf("Climb from leaf %d of %d, %d bits wide: %x, %d, want %x", i, n, w, got, errno, root)
				}
				if !path.Check(w, leaves[i], uint64(i), uint64(n), proof, root) {
					t.Fatalf("Check of leaf %d of %d, %d bits wide", i, n, w)
				}
			}
		}
	}
}

func TestProofsOfManyLeavesPass(t *testing.T) {
	source := rand.New(rand.NewSource(20))
	leaves := hashes(source, 5000)
	for _, n := range []int{1023, 1024, 1025, 3000, 4095, 4096, 4097, 5000} {
		root := leaf.Root(256, leaves[:n])
		for _, i := range []int{0, 1, 1022, n / 2, source.Intn(n), n - 2, n - 1} {
			proof := proved(t, 256, leaves, i, n)
			if !slices.Equal(proof, audit(256, leaves[:n], i)) || !path.Check(256, leaves[i], uint64(i), uint64(n), proof, root) {
				t.Errorf("the proof of leaf %d of %d doesn't pass", i, n)
			}
		}
	}
}
