package leaf_test

import (
	"bytes"
	"crypto/sha256"
	"encoding/hex"
	"math"
	"math/bits"
	"math/rand"
	"slices"
	"strconv"
	"strings"
	"testing"

	"tabellion/api"
	"tabellion/leaf"
)

// widths are some in whole bytes and some not, and some outside of 0 to 256.
var widths = []int{256, 255, 249, 248, 200, 129, 128, 64, 33, 12, 9, 8, 7, 1, 0, -1, -8, -256, math.MinInt, 257, 264, 1000, math.MaxInt}

// chance answers n bytes of a source that is the same in each run.
func chance(source *rand.Rand, n int) []byte {
	b := make([]byte, n)
	for i := range b {
		b[i] = byte(source.Intn(256))
	}
	return b
}

// hashes answers n hashes by chance, with all their bits.
func hashes(source *rand.Rand, n int) []api.Hash {
	list := make([]api.Hash, n)
	for i := range list {
		copy(list[i][:], chance(source, len(list[i])))
	}
	return list
}

// hashed is the hash of a text, w wide, by the test library and bit by bit.
func hashed(w int, text []byte) api.Hash {
	whole := sha256.Sum256(text)
	var h api.Hash
	for i := range 256 {
		if i < w {
			h[i/8] |= whole[i/8] & (0x80 >> (i % 8))
		}
	}
	return h
}

// node is a node over two hashes, by its text.
func node(w int, l, r api.Hash) api.Hash {
	return hashed(w, slices.Concat([]byte{1}, l[:], r[:]))
}

// root is the root of leaves, made from below: row by row, with the odd one at the end of a row put into the next one.
func root(w int, leaves []api.Hash) api.Hash {
	if len(leaves) == 0 {
		return hashed(w, nil)
	}
	row := slices.Clone(leaves)
	for len(row) > 1 {
		var next []api.Hash
		for pair := range slices.Chunk(row, 2) {
			if len(pair) == 2 {
				pair[0] = node(w, pair[0], pair[1])
			}
			next = append(next, pair[0])
		}
		row = next
	}
	return row[0]
}

// parts are the roots of the parts into which leaves are cut, the greatest first.
func parts(w int, leaves []api.Hash) []api.Hash {
	var list []api.Hash
	for bit := 62; bit >= 0; bit-- {
		if len(leaves)>>bit&1 == 1 {
			list = append(list, root(w, leaves[:1<<bit]))
			leaves = leaves[1<<bit:]
		}
	}
	return list
}

// pushed is a right range with one more leaf behind, bit by bit as the chapter says it.
func pushed(w int, r api.Range, h api.Hash) api.Range {
	peaks := append(slices.Clone(r.Peaks), h)
	for bit := 0; r.Size>>bit&1 == 1; bit++ {
		n := len(peaks)
		peaks = append(peaks[:n-2:n-2], node(w, peaks[n-2], peaks[n-1]))
	}
	return api.Range{Size: r.Size + 1, Peaks: peaks}
}

// sizes are those at which the number of bits, or of the lower bits that are 1, is an edge, and others by chance.
func sizes(source *rand.Rand) []uint64 {
	list := []uint64{0, math.MaxUint64, math.MaxInt64 - 1, 0x5555555555555555, 0xaaaaaaaaaaaaaaaa}
	for bit := range 64 {
		power := uint64(1) << bit
		list = append(list, power-1, power, power+1, power|power>>1, ^power, source.Uint64()>>bit, source.Uint64()|(power-1))
	}
	return list
}

func same(a, b api.Range) bool {
	return a.Size == b.Size && slices.Equal(a.Peaks, b.Peaks)
}

// grown answers the range onto which leaves are pushed, from the zero one on.
func grown(t *testing.T, w int, leaves []api.Hash) api.Range {
	t.Helper()
	var r api.Range
	for i, h := range leaves {
		next, errno := leaf.Push(w, r, h)
		if errno != api.OK {
			t.Fatalf("Push of leaf %d, %d bits wide: %d", i, w, errno)
		}
		r = next
	}
	return r
}

// P14.1

func TestEmpty(t *testing.T) {
	if got := leaf.Empty(256); hex.EncodeToString(got[:]) != "e3b0c44298fc1c149afbf4c8996fb92427ae41e4649b934ca495991b7852b855" {
		t.Errorf("Empty(256): %x", got)
	}
	if got := leaf.Empty(12); got != (api.Hash{0xe3, 0xb0}) {
		t.Errorf("Empty(12): %x", got)
	}
	for w := -20; w < 300; w++ {
		if got := leaf.Empty(w); got != hashed(w, nil) {
			t.Errorf("Empty(%d): %x, want %x", w, got, hashed(w, nil))
		}
	}
}

func TestLeafKnown(t *testing.T) {
	for _, c := range []struct{ data, want string }{
		{"", "6e340b9cffb37a989ca544e6bb780a2c78901d3fb33738768511a30617afa01d"},
		{"L123456", "395aa064aa4c29f7010acfe3f25db9485bbd4b91897b6ad7ad547639252b4d56"},
	} {
		if got := leaf.Leaf(256, []byte(c.data)); hex.EncodeToString(got[:]) != c.want {
			t.Errorf("Leaf of %q: %x, want %s", c.data, got, c.want)
		}
	}
}

func TestLeafOfEachLength(t *testing.T) {
	source := rand.New(rand.NewSource(1))
	for n := range 300 {
		for _, data := range [][]byte{chance(source, n), make([]byte, n), bytes.Repeat([]byte{1}, n)} {
			for _, w := range widths {
				want := hashed(w, append([]byte{0}, data...))
				if got := leaf.Leaf(w, data); got != want {
					t.Fatalf("Leaf(%d, %x): %x, want %x", w, data, got, want)
				}
			}
		}
	}
}

func TestLeafOfEachWidth(t *testing.T) {
	for w := -20; w < 300; w++ {
		if got, want := leaf.Leaf(w, []byte("a")), hashed(w, []byte("\x00a")); got != want {
			t.Errorf("Leaf(%d, a): %x, want %x", w, got, want)
		}
	}
}

func TestLeafOfNothing(t *testing.T) {
	if leaf.Leaf(256, nil) != leaf.Leaf(256, []byte{}) || leaf.Leaf(256, nil) == leaf.Empty(256) {
		t.Errorf("Leaf of nothing: %x, %x; Empty %x", leaf.Leaf(256, nil), leaf.Leaf(256, []byte{}), leaf.Empty(256))
	}
}

func TestDataIsLeftAsItIs(t *testing.T) {
	was := chance(rand.New(rand.NewSource(2)), 200)
	full := bytes.Clone(was)
	for _, n := range []int{0, 1, 54, 55, 63, 64, 100} {
		leaf.Leaf(256, full[:n])
	}
	if !bytes.Equal(full, was) {
		t.Errorf("the data, or its spare room, is now %x", full)
	}
}

// The hashes below count with all of their 32 bytes, however narrow the node is.
func TestNodeOfEachWidth(t *testing.T) {
	list := hashes(rand.New(rand.NewSource(3)), 40)
	list = append(list, api.Hash{}, leaf.Leaf(8, nil))
	for w := -20; w < 300; w++ {
		for i, l := range list {
			r := list[(i*7+w+20)%len(list)]
			if got := leaf.Node(w, l, r); got != node(w, l, r) {
				t.Fatalf("Node(%d, %x, %x): %x, want %x", w, l, r, got, node(w, l, r))
			}
		}
	}
	for _, w := range widths {
		if got := leaf.Node(w, list[0], list[1]); got != node(w, list[0], list[1]) {
			t.Errorf("Node(%d, %x, %x): %x", w, list[0], list[1], got)
		}
	}
}

// A node isn't a leaf of the same 64 bytes, and its two sides aren't the same.
func TestNodeIsNoLeaf(t *testing.T) {
	l, r := hashed(256, []byte("l")), hashed(256, []byte("r"))
	if got := leaf.Node(256, l, r); got == leaf.Leaf(256, slices.Concat(l[:], r[:])) || got == leaf.Node(256, r, l) {
		t.Errorf("Node(256, %x, %x): %x", l, r, got)
	}
}

// The leaves and the roots that the tests of Certificate Transparency have.
func TestRootKnown(t *testing.T) {
	data := []string{"", "\x00", "\x10", "\x20\x21", "\x30\x31", "\x40\x41\x42\x43", "\x50\x51\x52\x53\x54\x55\x56\x57", "\x60\x61\x62\x63\x64\x65\x66\x67\x68\x69\x6a\x6b\x6c\x6d\x6e\x6f"}
	roots := []string{
		"e3b0c44298fc1c149afbf4c8996fb92427ae41e4649b934ca495991b7852b855",
		"6e340b9cffb37a989ca544e6bb780a2c78901d3fb33738768511a30617afa01d",
		"fac54203e7cc696cf0dfcb42c92a1d9dbaf70ad9e621f4bd8d98662f00e3c125",
		"aeb6bcfe274b70a14fb067a5e5578264db0fa9b51af5e0ba159158f329e06e77",
		"d37ee418976dd95753c1c73862b9398fa2a2cf9b4ff0fdfe8b30cd95209614b7",
		"4e3bbb1f7b478dcfe71fb631631519a3bca12c9aefca1612bfce4c13a86264d4",
		"76e67dadbcdf1e10e1b74ddc608abd2f98dfb16fbce75277b5232a127f2087ef",
		"ddb89be403809e325750d3d263cd78929c2942b7942a34b77e122c9594a74c8c",
		"5dc9da79a70659a9ad559cb701ded9a2ab9d823aad2f4960cfe370eff4604328",
	}
	var leaves []api.Hash
	for n, want := range roots {
		if got := leaf.Root(256, leaves); hex.EncodeToString(got[:]) != want {
			t.Errorf("Root of %d leaves: %x, want %s", n, got, want)
		}
		if n < len(data) {
			leaves = append(leaves, leaf.Leaf(256, []byte(data[n])))
		}
	}
}

func TestRootExamples(t *testing.T) {
	a, b, c := leaf.Leaf(256, []byte("a")), leaf.Leaf(256, []byte("b")), leaf.Leaf(256, []byte("c"))
	if got := leaf.Root(256, []api.Hash{a, b}); got != node(256, a, b) {
		t.Errorf("Root of two leaves: %x", got)
	}
	if got := leaf.Root(256, []api.Hash{a, b, c}); got != node(256, node(256, a, b), c) {
		t.Errorf("Root of three leaves: %x", got)
	}
}

func TestRootOfNothing(t *testing.T) {
	for _, w := range widths {
		if leaf.Root(w, nil) != hashed(w, nil) || leaf.Root(w, []api.Hash{}) != hashed(w, nil) {
			t.Errorf("Root of no leaves, %d bits wide: %x, %x", w, leaf.Root(w, nil), leaf.Root(w, []api.Hash{}))
		}
	}
}

// One leaf is the root as it is, be it wider than the tree too.
func TestRootOfOneLeaf(t *testing.T) {
	h := hashed(256, []byte("a"))
	for _, w := range widths {
		if got := leaf.Root(w, []api.Hash{h}); got != h {
			t.Errorf("Root of one leaf, %d bits wide: %x", w, got)
		}
	}
}

func TestRootOfEachSize(t *testing.T) {
	leaves := hashes(rand.New(rand.NewSource(4)), 140)
	for n := range len(leaves) + 1 {
		for _, w := range []int{256, 100, 12, 0} {
			if got, want := leaf.Root(w, leaves[:n]), root(w, leaves[:n]); got != want {
				t.Fatalf("Root of %d leaves, %d bits wide: %x, want %x", n, w, got, want)
			}
		}
	}
}

func TestRootOfManyLeaves(t *testing.T) {
	leaves := hashes(rand.New(rand.NewSource(5)), 4100)
	for _, n := range []int{255, 256, 257, 1023, 1024, 1025, 3000, 4095, 4096, 4097, 4100} {
		if got, want := leaf.Root(256, leaves[:n]), root(256, leaves[:n]); got != want {
			t.Errorf("Root of %d leaves: %x, want %x", n, got, want)
		}
	}
}

func TestRootOfEachWidth(t *testing.T) {
	leaves := hashes(rand.New(rand.NewSource(6)), 7)
	for _, w := range widths {
		if got, want := leaf.Root(w, leaves), root(w, leaves); got != want {
			t.Errorf("Root(%d, 7 leaves): %x, want %x", w, got, want)
		}
	}
}

func TestLeavesAreLeftAsTheyAre(t *testing.T) {
	was := hashes(rand.New(rand.NewSource(7)), 20)
	full := slices.Clone(was)
	for n := range 12 {
		leaf.Root(256, full[:n])
	}
	if !slices.Equal(full, was) {
		t.Error("the leaves, or their spare room, were changed")
	}
}

// P14.2

func TestRightZero(t *testing.T) {
	if !leaf.Right(api.Range{}) || !leaf.Right(api.Range{Peaks: []api.Hash{}}) {
		t.Error("a range of no leaves and no peaks isn't right")
	}
}

// Each size has one number of peaks that is right.
func TestRight(t *testing.T) {
	for _, size := range sizes(rand.New(rand.NewSource(8))) {
		for n := range 70 {
			r := api.Range{Size: size, Peaks: make([]api.Hash, n)}
			if got, want := leaf.Right(r), n == strings.Count(strconv.FormatUint(size, 2), "1"); got != want {
				t.Fatalf("Right of %d leaves and %d peaks: %v", size, n, got)
			}
		}
	}
}

func TestPushOntoNothing(t *testing.T) {
	h := hashed(256, []byte("a"))
	for _, w := range widths {
		for _, r := range []api.Range{{}, {Peaks: []api.Hash{}}} {
			got, errno := leaf.Push(w, r, h)
			if errno != api.OK || !same(got, api.Range{Size: 1, Peaks: []api.Hash{h}}) {
				t.Errorf("Push onto nothing, %d bits wide: %v, %d", w, got, errno)
			}
		}
	}
}

func TestPushExample(t *testing.T) {
	a, b, c := leaf.Leaf(256, []byte("a")), leaf.Leaf(256, []byte("b")), leaf.Leaf(256, []byte("c"))
	if r := grown(t, 256, []api.Hash{a, b, c}); !same(r, api.Range{Size: 3, Peaks: []api.Hash{node(256, a, b), c}}) {
		t.Errorf("a range of three leaves: %v", r)
	}
}

// Whatever peaks a right range has, and however great it is.
func TestPushOntoEachSize(t *testing.T) {
	source := rand.New(rand.NewSource(9))
	for _, size := range sizes(source) {
		r := api.Range{Size: size, Peaks: hashes(source, bits.OnesCount64(size))}
		h := hashes(source, 1)[0]
		for _, w := range []int{256, 12, 0} {
			got, errno := leaf.Push(w, r, h)
			if size > math.MaxInt64 {
				if errno != api.ErrArg || !same(got, api.Range{}) {
					t.Fatalf("Push onto %d leaves: %v, %d", size, got, errno)
				}
			} else if want := pushed(w, r, h); errno != api.OK || !same(got, want) {
				t.Fatalf("Push onto %d leaves, %d bits wide: %v, %d, want %v", size, w, got, errno, want)
			}
		}
	}
}

func TestPushAtTheLimit(t *testing.T) {
	source := rand.New(rand.NewSource(10))
	h := hashed(256, []byte("a"))
	last := api.Range{Size: 1<<63 - 1, Peaks: hashes(source, 63)}
	if got, errno := leaf.Push(256, last, h); errno != api.OK || got.Size != 1<<63 || len(got.Peaks) != 1 {
		t.Errorf("Push onto 2^63 - 1 leaves: %d leaves, %d peaks, %d", got.Size, len(got.Peaks), errno)
	}
	for _, size := range []uint64{1 << 63, 1<<63 + 1, math.MaxUint64 - 1, math.MaxUint64} {
		r := api.Range{Size: size, Peaks: hashes(source, bits.OnesCount64(size))}
		if got, errno := leaf.Push(256, r, h); errno != api.ErrArg || !same(got, api.Range{}) {
			t.Errorf("Push onto %d leaves: %v, %d", size, got, errno)
		}
	}
}

func TestPushOntoWrongRange(t *testing.T) {
	source := rand.New(rand.NewSource(11))
	h := hashed(256, []byte("a"))
	for _, size := range sizes(source) {
		for _, n := range []int{0, 1, 2, 30, 63, 64, 65, 100, bits.OnesCount64(size) + 1, max(bits.OnesCount64(size)-1, 0)} {
			if n == bits.OnesCount64(size) {
				continue
			}
			got, errno := leaf.Push(256, api.Range{Size: size, Peaks: hashes(source, n)}, h)
			if errno != api.ErrArg || !same(got, api.Range{}) {
				t.Fatalf("Push onto %d leaves with %d peaks: %v, %d", size, n, got, errno)
			}
		}
	}
}

func TestPushLeavesTheRange(t *testing.T) {
	source := rand.New(rand.NewSource(12))
	for size := range uint64(70) {
		was := hashes(source, 20)
		full := slices.Clone(was)
		r := api.Range{Size: size, Peaks: full[:bits.OnesCount64(size)]}
		got, _ := leaf.Push(256, r, was[0])
		if !slices.Equal(full, was) {
			t.Fatalf("Push onto %d leaves changed the peaks, or their spare room", size)
		}
		if !same(r, api.Range{Size: size, Peaks: was[:bits.OnesCount64(size)]}) {
			t.Fatalf("Push onto %d leaves changed the range", size)
		}
		clear(got.Peaks[:cap(got.Peaks)])
		if !slices.Equal(full, was) {
			t.Fatalf("Push onto %d leaves: what it answers shares memory with what it was given", size)
		}
	}
}

// From one range go several others, and none of them is seen in another one.
func TestPushesFromOneRange(t *testing.T) {
	source := rand.New(rand.NewSource(13))
	leaves := hashes(source, 40)
	others := hashes(source, 5)
	for n := range len(leaves) {
		r := grown(t, 256, leaves[:n])
		var next []api.Range
		for _, h := range others {
			got, _ := leaf.Push(256, r, h)
			next = append(next, got)
		}
		for i, h := range others {
			if want := parts(256, append(slices.Clone(leaves[:n]), h)); !slices.Equal(next[i].Peaks, want) {
				t.Fatalf("%d leaves and another: %v, want %v", n, next[i].Peaks, want)
			}
		}
		if !slices.Equal(r.Peaks, parts(256, leaves[:n])) {
			t.Fatalf("the range of %d leaves was changed", n)
		}
	}
}

// P14.3

func TestPeakOfNothing(t *testing.T) {
	for _, w := range widths {
		for _, r := range []api.Range{{}, {Peaks: []api.Hash{}}} {
			if got, errno := leaf.Peak(w, r); errno != api.OK || got != hashed(w, nil) {
				t.Errorf("Peak of nothing, %d bits wide: %x, %d", w, got, errno)
			}
		}
	}
}

// One peak is the root as it is, be it wider than the tree too.
func TestPeakOfOne(t *testing.T) {
	h := hashed(256, []byte("a"))
	for _, w := range widths {
		for bit := range 64 {
			if got, errno := leaf.Peak(w, api.Range{Size: 1 << bit, Peaks: []api.Hash{h}}); errno != api.OK || got != h {
				t.Errorf("Peak of 2^%d leaves, %d bits wide: %x, %d", bit, w, got, errno)
			}
		}
	}
}

func TestPeakOfThree(t *testing.T) {
	list := hashes(rand.New(rand.NewSource(14)), 3)
	a, b, c := list[0], list[1], list[2]
	for _, w := range widths {
		if got, errno := leaf.Peak(w, api.Range{Size: 7, Peaks: list}); errno != api.OK || got != node(w, a, node(w, b, c)) {
			t.Errorf("Peak of three, %d bits wide: %x, %d", w, got, errno)
		}
	}
}

// Whatever peaks a right range has, and however great it is.
func TestPeakOfEachSize(t *testing.T) {
	source := rand.New(rand.NewSource(15))
	for _, size := range sizes(source) {
		peaks := hashes(source, bits.OnesCount64(size))
		for _, w := range []int{256, 12, 0} {
			want := hashed(w, nil)
			for i := range peaks {
				if left := len(peaks) - 1 - i; i == 0 {
					want = peaks[left]
				} else {
					want = node(w, peaks[left], want)
				}
			}
			if got, errno := leaf.Peak(w, api.Range{Size: size, Peaks: peaks}); errno != api.OK || got != want {
				t.Fatalf("Peak of %d leaves, %d bits wide: %x, %d, want %x", size, w, got, errno, want)
			}
		}
	}
}

func TestPeakOfWrongRange(t *testing.T) {
	source := rand.New(rand.NewSource(16))
	for _, size := range sizes(source) {
		for _, n := range []int{0, 1, 2, 30, 63, 64, 65, 100, bits.OnesCount64(size) + 1, max(bits.OnesCount64(size)-1, 0)} {
			if n == bits.OnesCount64(size) {
				continue
			}
			got, errno := leaf.Peak(256, api.Range{Size: size, Peaks: hashes(source, n)})
			if errno != api.ErrArg || got != (api.Hash{}) {
				t.Fatalf("Peak of %d leaves with %d peaks: %x, %d", size, n, got, errno)
			}
		}
	}
}

func TestPeakLeavesTheRange(t *testing.T) {
	was := hashes(rand.New(rand.NewSource(17)), 70)
	full := slices.Clone(was)
	for _, size := range []uint64{0, 1, 3, 7, 100, math.MaxUint64} {
		leaf.Peak(256, api.Range{Size: size, Peaks: full[:bits.OnesCount64(size)]})
	}
	if !slices.Equal(full, was) {
		t.Error("the peaks, or their spare room, were changed")
	}
}

// P14.4

func TestRangesHaveTheirLeaves(t *testing.T) {
	leaves := hashes(rand.New(rand.NewSource(18)), 140)
	for _, w := range widths {
		var r api.Range
		for n := range len(leaves) + 1 {
			if !leaf.Right(r) || !same(r, api.Range{Size: uint64(n), Peaks: parts(w, leaves[:n])}) {
				t.Fatalf("%d leaves, %d bits wide: %v", n, w, r)
			}
			got, errno := leaf.Peak(w, r)
			if errno != api.OK || got != root(w, leaves[:n]) || got != leaf.Root(w, leaves[:n]) {
				t.Fatalf("Peak of %d leaves, %d bits wide: %x, %d", n, w, got, errno)
			}
			if n < len(leaves) {
				r, _ = leaf.Push(w, r, leaves[n])
			}
		}
	}
}

// So it is, too, for leaves that are as wide as their tree.
func TestRangesOfTexts(t *testing.T) {
	source := rand.New(rand.NewSource(19))
	for _, w := range widths {
		var leaves []api.Hash
		for n := range 33 {
			leaves = append(leaves, leaf.Leaf(w, chance(source, n)))
		}
		r := grown(t, w, leaves)
		if got, errno := leaf.Peak(w, r); errno != api.OK || got != root(w, leaves) || !slices.Equal(r.Peaks, parts(w, leaves)) {
			t.Errorf("a range of 33 texts, %d bits wide: %v", w, r)
		}
	}
}

func TestRangeOfManyLeaves(t *testing.T) {
	leaves := hashes(rand.New(rand.NewSource(20)), 5000)
	for _, n := range []int{1023, 1024, 1025, 4095, 4096, 4097, 5000} {
		r := grown(t, 256, leaves[:n])
		if got, errno := leaf.Peak(256, r); errno != api.OK || got != root(256, leaves[:n]) || !slices.Equal(r.Peaks, parts(256, leaves[:n])) {
			t.Errorf("a range of %d leaves: %d peaks, root %x", n, len(r.Peaks), got)
		}
	}
}
