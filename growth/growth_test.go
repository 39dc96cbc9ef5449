package growth_test

import (
	"encoding/hex"
	"math"
	"math/bits"
	"math/rand"
	"slices"
	"testing"

	"tabellion/api"
	"tabellion/growth"
	"tabellion/leaf"
)

// widths are some in whole bytes and some not, and some outside of 0 to 256.
var widths = []int{256, 255, 248, 129, 64, 33, 12, 8, 7, 1, 0, -1, math.MinInt, 257, 1000, math.MaxInt}

// hashes answers n hashes of a source that is the same in each run, with all their bits.
func hashes(source *rand.Rand, n int) []api.Hash {
	list := make([]api.Hash, n)
	for i := range list {
		source.Read(list[i][:])
	}
	return list
}

// power tells whether m is a power of 2.
func power(m uint64) bool {
	return bits.OnesCount64(m) == 1
}

// consistency is the proof from the first m of the leaves to all of them, made from below: the last peak of the first
// m, if it isn't all that they have, and then, in its row and in each one above, the other one of its pair.
func consistency(w int, leaves []api.Hash, m int) []api.Hash {
	if m == len(leaves) {
		return nil
	}
	var proof []api.Hash
	row := slices.Clone(leaves)
	i, begun := m-1, false
	for len(row) > 1 {
		if !begun && i%2 == 0 {
			begun = true
			if !power(uint64(m)) {
				proof = append(proof, row[i])
			}
		}
		if begun && i^1 < len(row) {
			proof = append(proof, row[i^1])
		}
		var next []api.Hash
		for pair := range slices.Chunk(row, 2) {
			if len(pair) == 2 {
				pair[0] = leaf.Node(w, pair[0], pair[1])
			}
			next = append(next, pair[0])
		}
		row, i = next, i/2
	}
	return proof
}

// size is how many hashes the proof from m to n has: as many as rows, from that of the last peak on, have another one
// beside the peak's place, and the peak itself, if the old root doesn't tell it.
func size(m, n uint64) int {
	if m == n {
		return 0
	}
	count := 0
	if !power(m) {
		count = 1
	}
	row := bits.TrailingZeros64(m)
	for i, last := (m-1)>>row, (n-1)>>row; last > 0; i, last = i/2, last/2 {
		if i^1 <= last {
			count++
		}
	}
	return count
}

// climbed are the two roots that a proof of the right length shows, from below as RFC 9162 (2.1.4.2) has it.
func climbed(w int, m, n uint64, old api.Hash, proof []api.Hash) (api.Hash, api.Hash) {
	if m == n {
		return old, old
	}
	if power(m) {
		proof = slices.Concat([]api.Hash{old}, proof)
	}
	first, last := m-1, n-1
	for first%2 == 1 {
		first, last = first/2, last/2
	}
	o, r := proof[0], proof[0]
	for _, p := range proof[1:] {
		if first%2 == 1 || first == last {
			o, r = leaf.Node(w, p, o), leaf.Node(w, p, r)
			for first%2 == 0 && first != 0 {
				first, last = first/2, last/2
			}
		} else {
			r = leaf.Node(w, r, p)
		}
		first, last = first/2, last/2
	}
	return o, r
}

// step is how many leaves the old tree has, and how many the new one.
type step struct{ m, n uint64 }

// steps are all between small trees, and those at the edges of greater ones, and some by chance.
func steps(source *rand.Rand) []step {
	var list []step
	for n := range uint64(35) {
		for m := uint64(1); m <= n; m++ {
			list = append(list, step{m, n})
		}
	}
	sizes := []uint64{math.MaxUint64, math.MaxUint64 - 1, 0x5555555555555555, 0xaaaaaaaaaaaaaaaa}
	for bit := 5; bit < 64; bit++ {
		edge := uint64(1) << bit
		sizes = append(sizes, edge-1, edge, edge+1, edge|edge>>1, edge|source.Uint64()&(edge-1))
	}
	for _, n := range sizes {
		half := uint64(1) << 63
		for half >= n {
			half /= 2
		}
		list = append(list, step{1, n}, step{2, n}, step{3, n}, step{half - 1, n}, step{half, n}, step{n - 1, n}, step{n, n})
		if half+1 < n {
			list = append(list, step{half + 1, n})
		}
		list = append(list, step{1 + source.Uint64()%n, n}, step{1 + source.Uint64()%half, n})
	}
	return list
}

// outside are steps that no tree takes: from none, and back.
func outside() []step {
	var list []step
	for n := range uint64(20) {
		for m := n + 1; m < 2*n+4; m++ {
			list = append(list, step{m, n})
		}
		list = append(list, step{0, n}, step{math.MaxInt64, n}, step{1 << 63, n}, step{math.MaxUint64, n})
	}
	return append(list, step{math.MaxUint64, math.MaxUint64 - 1}, step{1<<63 + 1, 1 << 63}, step{1 << 63, math.MaxInt64}, step{0, 1 << 63}, step{0, math.MaxUint64})
}

// proved answers the proof from the first m to the first n leaves.
func proved(t *testing.T, w int, leaves []api.Hash, m, n int) []api.Hash {
	t.Helper()
	proof, errno := growth.Prove(w, leaves, m, n)
	if errno != api.OK {
		t.Fatalf("Prove from %d to %d, %d bits wide: %d", m, n, w, errno)
	}
	return proof
}

// known are the leaves that the tests of Certificate Transparency have.
func known() []api.Hash {
	var leaves []api.Hash
	for _, text := range []string{"", "\x00", "\x10", "\x20\x21", "\x30\x31", "\x40\x41\x42\x43", "\x50\x51\x52\x53\x54\x55\x56\x57", "\x60\x61\x62\x63\x64\x65\x66\x67\x68\x69\x6a\x6b\x6c\x6d\x6e\x6f"} {
		leaves = append(leaves, leaf.Leaf(256, []byte(text)))
	}
	return leaves
}

// P16.1

func TestSizeKnown(t *testing.T) {
	for _, c := range []struct {
		m, n uint64
		want int
	}{
		{1, 1, 0}, {1, 2, 1}, {2, 2, 0},
		{1, 3, 2}, {2, 3, 1}, {3, 3, 0},
		{1, 4, 2}, {2, 4, 1}, {3, 4, 3}, {4, 4, 0},
		{4, 5, 1}, {5, 6, 3}, {5, 7, 4}, {6, 7, 3}, {6, 8, 3}, {7, 8, 4}, {7, 7, 0}, {4, 7, 1}, {8, 9, 1},
		{1, 1 << 63, 63}, {1 << 62, 1 << 63, 1}, {1<<63 - 1, 1 << 63, 64}, {1 << 63, 1 << 63, 0},
		{1, 1<<63 + 1, 64}, {1 << 63, 1<<63 + 1, 1}, {1<<63 + 1, 1<<63 + 2, 3}, {1 << 63, math.MaxUint64, 1},
		{math.MaxUint64 - 1, math.MaxUint64, 64}, {math.MaxUint64, math.MaxUint64, 0}, {1<<63 + 1, math.MaxUint64, 65},
		{1<<63 - 1, math.MaxUint64, 65},
	} {
		if got := growth.Size(c.m, c.n); got != c.want {
			t.Errorf("Size(%d, %d): %d, want %d", c.m, c.n, got, c.want)
		}
	}
}

func TestSizeOfEachStep(t *testing.T) {
	for _, s := range steps(rand.New(rand.NewSource(1))) {
		if got, want := growth.Size(s.m, s.n), size(s.m, s.n); got != want {
			t.Errorf("Size(%d, %d): %d, want %d", s.m, s.n, got, want)
		}
	}
}

func TestSizeOutside(t *testing.T) {
	for _, s := range outside() {
		if got := growth.Size(s.m, s.n); got != 0 {
			t.Errorf("Size(%d, %d): %d", s.m, s.n, got)
		}
	}
}

// P16.2

func TestProveExamples(t *testing.T) {
	list := hashes(rand.New(rand.NewSource(2)), 4)
	a, b, c, d := list[0], list[1], list[2], list[3]
	for _, e := range []struct {
		m, n int
		want []api.Hash
	}{
		{2, 3, []api.Hash{c}},
		{3, 4, []api.Hash{c, d, leaf.Node(256, a, b)}},
		{1, 1, nil},
	} {
		if got := proved(t, 256, list, e.m, e.n); !slices.Equal(got, e.want) {
			t.Errorf("the proof from %d to %d: %x, want %x", e.m, e.n, got, e.want)
		}
	}
}

// The proofs that the tests of Certificate Transparency have.
func TestProveKnown(t *testing.T) {
	leaves := known()
	for _, c := range []struct {
		m, n int
		want []string
	}{
		{1, 1, nil},
		{1, 8, []string{
			"96a296d224f285c67bee93c30f8a309157f0daa35dc5b87e410b78630a09cfc7",
			"5f083f0a1a33ca076a95279832580db3e0ef4584bdff1f54c8a360f50de3031e",
			"6b47aaf29ee3c2af9af889bc1fb9254dabd31177f16232dd6aab035ca39bf6e4",
		}},
		{6, 8, []string{
			"0ebc5d3437fbe2db158b9f126a1d118e308181031d0a949f8dededebc558ef6a",
			"ca854ea128ed050b41b35ffc1b87b8eb2bde461e9e3b5596ece6b9d5975a0ae0",
			"d37ee418976dd95753c1c73862b9398fa2a2cf9b4ff0fdfe8b30cd95209614b7",
		}},
		{2, 5, []string{
			"5f083f0a1a33ca076a95279832580db3e0ef4584bdff1f54c8a360f50de3031e",
			"bc1a0643b12e4d2d7c77918f44e0f4f79a838b6cf9ec5b5c283e1f4d88599e6b",
		}},
	} {
		var got []string
		for _, h := range proved(t, 256, leaves, c.m, c.n) {
			got = append(got, hex.EncodeToString(h[:]))
		}
		if !slices.Equal(got, c.want) {
			t.Errorf("the proof from %d to %d: %s, want %s", c.m, c.n, got, c.want)
		}
	}
}

// The leaves behind the first n change nothing.
func TestProofOfEachStep(t *testing.T) {
	leaves := hashes(rand.New(rand.NewSource(3)), 66)
	for n := 1; n <= len(leaves); n++ {
		for m := 1; m <= n; m++ {
			for _, w := range []int{256, 100, 12, 0} {
				want := consistency(w, leaves[:n], m)
				for _, list := range [][]api.Hash{leaves[:n], leaves} {
					if got := proved(t, w, list, m, n); !slices.Equal(got, want) {
						t.Fatalf("the proof from %d to %d, %d bits wide: %x, want %x", m, n, w, got, want)
					}
				}
				if len(want) != growth.Size(uint64(m), uint64(n)) {
					t.Fatalf("Size(%d, %d): %d, the proof has %d", m, n, growth.Size(uint64(m), uint64(n)), len(want))
				}
			}
		}
	}
}

func TestProofOfEachWidth(t *testing.T) {
	leaves := hashes(rand.New(rand.NewSource(4)), 13)
	list := slices.Clone(widths)
	for w := -10; w < 270; w++ {
		list = append(list, w)
	}
	for _, w := range list {
		for m := 1; m <= len(leaves); m++ {
			if got, want := proved(t, w, leaves, m, len(leaves)), consistency(w, leaves, m); !slices.Equal(got, want) {
				t.Fatalf("the proof from %d to 13, %d bits wide: %x, want %x", m, w, got, want)
			}
		}
	}
}

// From no leaves on, and where nothing came behind, there is nothing to tell.
func TestProofOfNothing(t *testing.T) {
	leaves := hashes(rand.New(rand.NewSource(5)), 20)
	for n := range len(leaves) + 1 {
		for _, w := range widths {
			for _, m := range []int{0, n} {
				if got, errno := growth.Prove(w, leaves, m, n); errno != api.OK || len(got) != 0 {
					t.Errorf("Prove from %d to %d, %d bits wide: %x, %d", m, n, w, got, errno)
				}
			}
		}
	}
	for _, none := range [][]api.Hash{nil, {}} {
		if got, errno := growth.Prove(256, none, 0, 0); errno != api.OK || len(got) != 0 {
			t.Errorf("Prove from 0 to 0, of no leaves: %x, %d", got, errno)
		}
	}
}

func TestProveOutside(t *testing.T) {
	leaves := hashes(rand.New(rand.NewSource(6)), 12)
	numbers := []int{math.MinInt, math.MinInt + 1, -1 << 32, -2, -1, math.MaxInt32, 1 << 32, math.MaxInt - 1, math.MaxInt}
	for n := range 20 {
		numbers = append(numbers, n)
	}
	for have := range len(leaves) + 1 {
		for _, n := range numbers {
			for _, m := range numbers {
				got, errno := growth.Prove(256, leaves[:have], m, n)
				there := 0 <= m && m <= n && n <= have
				if there && errno != api.OK || !there && (errno != api.ErrRange || len(got) != 0) {
					t.Fatalf("Prove from %d to %d, of %d leaves: %x, %d", m, n, have, got, errno)
				}
			}
		}
	}
}

func TestProveLeavesTheLeaves(t *testing.T) {
	was := hashes(rand.New(rand.NewSource(7)), 40)
	full := slices.Clone(was)
	for n := range 21 {
		for m := range n + 1 {
			proof := proved(t, 256, full[:25], m, n)
			clear(proof[:cap(proof)])
			if !slices.Equal(full, was) {
				t.Fatalf("the proof from %d to %d: the leaves, or their spare room, were changed, or are shared", m, n)
			}
		}
	}
}

func TestProofsShareNothing(t *testing.T) {
	leaves := hashes(rand.New(rand.NewSource(8)), 9)
	for m := 1; m <= len(leaves); m++ {
		first, second := proved(t, 256, leaves, m, 9), proved(t, 256, leaves, m, 9)
		clear(first[:cap(first)])
		if !slices.Equal(second, consistency(256, leaves, m)) {
			t.Errorf("two proofs from %d to 9 share memory", m)
		}
	}
}

// P16.3

// Whatever the hashes of a proof are, and however great the trees are.
func TestClimbOfEachStep(t *testing.T) {
	source := rand.New(rand.NewSource(9))
	for _, s := range steps(source) {
		old, proof := hashes(source, 1)[0], hashes(source, size(s.m, s.n))
		for _, w := range []int{256, 12, 0} {
			wantO, wantR := climbed(w, s.m, s.n, old, proof)
			if o, r, errno := growth.Climb(w, s.m, s.n, old, proof); errno != api.OK || o != wantO || r != wantR {
				t.Fatalf("Climb from %d to %d, %d bits wide: %x, %x, %d, want %x, %x", s.m, s.n, w, o, r, errno, wantO, wantR)
			}
			// The old root is told by the proof itself, but where m is a power of 2: then it is the one that came in.
			if got := growth.Check(w, s.m, s.n, wantO, wantR, proof); !got {
				t.Fatalf("Check from %d to %d, %d bits wide: false", s.m, s.n, w)
			}
			if got := growth.Check(w, s.m, s.n, old, wantR, proof); got != (wantO == old) {
				t.Fatalf("Check from %d to %d, %d bits wide, from another old root: %v", s.m, s.n, w, got)
			}
		}
	}
}

func TestClimbOfEachWidth(t *testing.T) {
	source := rand.New(rand.NewSource(10))
	list := slices.Clone(widths)
	for w := -10; w < 270; w++ {
		list = append(list, w)
	}
	for m := uint64(1); m <= 11; m++ {
		old, proof := hashes(source, 1)[0], hashes(source, size(m, 11))
		for _, w := range list {
			wantO, wantR := climbed(w, m, 11, old, proof)
			if o, r, errno := growth.Climb(w, m, 11, old, proof); errno != api.OK || o != wantO || r != wantR {
				t.Fatalf("Climb from %d to 11, %d bits wide: %x, %x, %d, want %x, %x", m, w, o, r, errno, wantO, wantR)
			}
		}
	}
}

// Where nothing came behind the old root is both, as it is, be it wider than the tree too.
func TestClimbToTheSame(t *testing.T) {
	old := hashes(rand.New(rand.NewSource(11)), 1)[0]
	for _, n := range []uint64{1, 2, 3, 7, 8, 1000, 1<<63 - 1, 1 << 63, 1<<63 + 1, math.MaxUint64} {
		for _, w := range widths {
			for _, proof := range [][]api.Hash{nil, {}} {
				if o, r, errno := growth.Climb(w, n, n, old, proof); errno != api.OK || o != old || r != old {
					t.Errorf("Climb from %d to as many, %d bits wide: %x, %x, %d", n, w, o, r, errno)
				}
				if !growth.Check(w, n, n, old, old, proof) || growth.Check(w, n, n, old, api.Hash{}, proof) || growth.Check(w, n, n, api.Hash{}, old, proof) {
					t.Errorf("Check from %d to as many, %d bits wide", n, w)
				}
			}
		}
	}
}

// A proof isn't taken for another one's, neither by a part of it nor with more behind. No roots pass then, nor the zero
// ones.
func TestClimbByWrongLength(t *testing.T) {
	source := rand.New(rand.NewSource(12))
	proof := hashes(source, 70)
	old := proof[0]
	for _, s := range steps(source) {
		right := size(s.m, s.n)
		for _, n := range []int{0, 1, 2, right / 2, right - 1, right + 1, right + 2, 63, 64, 65, 66, 70} {
			if n == right || n < 0 {
				continue
			}
			want := api.ErrShort
			if n > right {
				want = api.ErrLong
			}
			o, r, errno := growth.Climb(256, s.m, s.n, old, proof[:n])
			if errno != want || o != (api.Hash{}) || r != (api.Hash{}) {
				t.Fatalf("Climb from %d to %d by %d hashes: %x, %x, %d, want %d", s.m, s.n, n, o, r, errno, want)
			}
			if growth.Check(256, s.m, s.n, api.Hash{}, api.Hash{}, proof[:n]) || growth.Check(256, s.m, s.n, old, old, proof[:n]) {
				t.Fatalf("Check from %d to %d by %d hashes", s.m, s.n, n)
			}
		}
	}
}

// A step that there isn't is told ahead of a proof's length.
func TestClimbOutside(t *testing.T) {
	proof := hashes(rand.New(rand.NewSource(13)), 66)
	old := proof[0]
	for _, s := range outside() {
		for _, n := range []int{0, 1, 2, 5, 63, 64, 65, 66} {
			for _, w := range []int{256, 0} {
				if o, r, errno := growth.Climb(w, s.m, s.n, old, proof[:n]); errno != api.ErrRange || o != (api.Hash{}) || r != (api.Hash{}) {
					t.Fatalf("Climb from %d to %d by %d hashes: %x, %x, %d", s.m, s.n, n, o, r, errno)
				}
			}
		}
	}
}

func TestClimbLeavesTheProof(t *testing.T) {
	source := rand.New(rand.NewSource(14))
	was := hashes(source, 80)
	full := slices.Clone(was)
	for _, s := range steps(source) {
		proof := full[:size(s.m, s.n)]
		growth.Climb(256, s.m, s.n, was[0], proof)
		growth.Check(256, s.m, s.n, was[0], was[1], proof)
	}
	if !slices.Equal(full, was) {
		t.Error("the proof, or its spare room, was changed")
	}
}

// P16.4

// What is greater is no beginning, whatever the roots and the proof are.
func TestCheckBack(t *testing.T) {
	leaves := hashes(rand.New(rand.NewSource(15)), 20)
	for _, s := range outside() {
		if s.m <= s.n {
			continue
		}
		for _, root := range []api.Hash{{}, leaf.Empty(256), leaves[0]} {
			for n := range 5 {
				if growth.Check(256, s.m, s.n, root, root, leaves[:n]) {
					t.Fatalf("Check from %d to %d by %d hashes, between %x", s.m, s.n, n, root)
				}
			}
		}
	}
	for n := 1; n <= len(leaves); n++ {
		for m := 1; m < n; m++ {
			proof := proved(t, 256, leaves, m, n)
			if growth.Check(256, uint64(n), uint64(m), leaf.Root(256, leaves[:n]), leaf.Root(256, leaves[:m]), proof) {
				t.Fatalf("Check from %d back to %d", n, m)
			}
		}
	}
}

// The empty tree is the beginning of each one, whatever the root of that is; but it is its own root.
func TestCheckFromNothing(t *testing.T) {
	source := rand.New(rand.NewSource(16))
	other := hashes(source, 1)[0]
	for _, w := range widths {
		empty := leaf.Empty(w)
		roots := []api.Hash{empty, {}, other, leaf.Empty(256), leaf.Empty(16)}
		for _, n := range []uint64{0, 1, 2, 3, 1 << 63, math.MaxUint64} {
			for _, old := range roots {
				for _, root := range roots {
					for k := range 3 {
						want := k == 0 && old == empty && (n > 0 || root == empty)
						if got := growth.Check(w, 0, n, old, root, make([]api.Hash, k)); got != want {
							t.Fatalf("Check from 0 to %d by %d hashes, between %x and %x, %d bits wide: %v", n, k, old, root, w, got)
						}
					}
				}
			}
		}
		if !growth.Check(w, 0, 0, empty, empty, nil) || !growth.Check(w, 0, 5, empty, other, nil) {
			t.Errorf("Check from 0 without a proof, %d bits wide", w)
		}
	}
}

// Each bit of the roots and of the proof counts.
func TestCheckOfTurnedBits(t *testing.T) {
	leaves := hashes(rand.New(rand.NewSource(17)), 11)
	root := leaf.Root(256, leaves)
	for m := 1; m <= len(leaves); m++ {
		proof, old := proved(t, 256, leaves, m, len(leaves)), leaf.Root(256, leaves[:m])
		passes := func() bool { return growth.Check(256, uint64(m), uint64(len(leaves)), old, root, proof) }
		parts := []*api.Hash{&old, &root}
		for k := range proof {
			parts = append(parts, &proof[k])
		}
		for bit := range 256 {
			for _, part := range parts {
				part[bit/8] ^= 0x80 >> (bit % 8)
				if passes() {
					t.Fatalf("Check from %d to 11 passes with a bit turned", m)
				}
				part[bit/8] ^= 0x80 >> (bit % 8)
			}
		}
		if !passes() {
			t.Fatalf("Check from %d to 11", m)
		}
	}
}

// What passes from one size passes from no other one.
func TestCheckFromOtherSizes(t *testing.T) {
	leaves := hashes(rand.New(rand.NewSource(18)), 20)
	for n := 1; n <= len(leaves); n++ {
		root := leaf.Root(256, leaves[:n])
		for m := 1; m <= n; m++ {
			proof, old := proved(t, 256, leaves, m, n), leaf.Root(256, leaves[:m])
			for other := range uint64(n + 3) {
				if got := growth.Check(256, other, uint64(n), old, root, proof); got != (other == uint64(m)) {
					t.Fatalf("Check from %d to %d as if from %d: %v", m, n, other, got)
				}
			}
		}
	}
}

// A tree that isn't the beginning doesn't pass for it: one leaf of the first m is another one.
func TestCheckOfOtherBeginnings(t *testing.T) {
	leaves := hashes(rand.New(rand.NewSource(19)), 17)
	for n := 1; n <= len(leaves); n++ {
		root := leaf.Root(256, leaves[:n])
		for m := 1; m <= n; m++ {
			right := proved(t, 256, leaves, m, n)
			for i := range m {
				other := slices.Clone(leaves[:n])
				other[i][0] ^= 1
				old := leaf.Root(256, other[:m])
				for _, proof := range [][]api.Hash{right, proved(t, 256, other, m, n)} {
					if growth.Check(256, uint64(m), uint64(n), old, root, proof) {
						t.Fatalf("Check from %d to %d, leaf %d being another one", m, n, i)
					}
				}
			}
		}
	}
}

// Where all hashes are one, whatever has the right length passes, and nothing else.
func TestCheckOfNoBits(t *testing.T) {
	source := rand.New(rand.NewSource(20))
	for _, w := range []int{0, -1, math.MinInt} {
		for n := uint64(3); n < 20; n++ {
			for m := uint64(1); m < n; m++ {
				proof := hashes(source, size(m, n))
				if !growth.Check(w, m, n, api.Hash{}, api.Hash{}, proof) || growth.Check(w, m, n, api.Hash{}, proof[0], proof) || growth.Check(w, m, n, api.Hash{}, api.Hash{}, proof[1:]) {
					t.Fatalf("Check from %d to %d, %d bits wide", m, n, w)
				}
			}
		}
	}
}

// Only the climb's hashes are narrowed: roots that are like them in their first bits don't pass.
func TestCheckOfWiderRoots(t *testing.T) {
	leaves := hashes(rand.New(rand.NewSource(21)), 6)
	root, proof := leaf.Root(12, leaves), proved(t, 12, leaves, 3, 6)
	old := leaf.Root(12, leaves[:3])
	wide := func(h api.Hash) api.Hash { h[31] = 1; return h }
	if !growth.Check(12, 3, 6, old, root, proof) || growth.Check(12, 3, 6, wide(old), root, proof) || growth.Check(12, 3, 6, old, wide(root), proof) {
		t.Errorf("Check between %x and %x", old, root)
	}
}

// P16.5

func TestProofsPass(t *testing.T) {
	leaves := hashes(rand.New(rand.NewSource(22)), 66)
	for _, w := range []int{256, 33, 8, 1, 0, -1, math.MaxInt} {
		var roots []api.Hash
		for n := range len(leaves) + 1 {
			roots = append(roots, leaf.Root(w, leaves[:n]))
			for m := range n + 1 {
				proof := proved(t, w, leaves, m, n)
				if !growth.Check(w, uint64(m), uint64(n), roots[m], roots[n], proof) {
					t.Fatalf("Check from %d to %d, %d bits wide", m, n, w)
				}
				if m == 0 {
					continue
				}
				if o, r, errno := growth.Climb(w, uint64(m), uint64(n), roots[m], proof); errno != api.OK || o != roots[m] || r != roots[n] {
					t.Fatalf("Climb from %d to %d, %d bits wide: %x, %x, %d", m, n, w, o, r, errno)
				}
			}
		}
	}
}

func TestProofsOfManyLeavesPass(t *testing.T) {
	source := rand.New(rand.NewSource(23))
	leaves := hashes(source, 5000)
	for _, n := range []int{1023, 1024, 1025, 3000, 4095, 4096, 4097, 5000} {
		root := leaf.Root(256, leaves[:n])
		for _, m := range []int{0, 1, 2, 3, 512, 1022, 1023, n / 2, 1 + source.Intn(n), n - 2, n - 1, n} {
			proof := proved(t, 256, leaves, m, n)
			if m > 0 && !slices.Equal(proof, consistency(256, leaves[:n], m)) || !growth.Check(256, uint64(m), uint64(n), leaf.Root(256, leaves[:m]), root, proof) {
				t.Errorf("the proof from %d to %d doesn't pass", m, n)
			}
		}
	}
}
