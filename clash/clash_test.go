package clash_test

import (
	"bytes"
	"crypto/sha256"
	"math"
	"math/rand"
	"slices"
	"strconv"
	"testing"

	"tabellion/api"
	"tabellion/clash"
	"tabellion/growth"
	"tabellion/leaf"
	"tabellion/path"
	"tabellion/sha"
)

// widths are some in whole bytes and some not, and some outside of 0 to 256.
var widths = []int{256, 255, 248, 129, 64, 33, 12, 8, 7, 1, 0, -1, math.MinInt, 257, 1000, math.MaxInt}

// narrow are those at which clashes are met by chance.
var narrow = []int{0, 0, 1, 1, 2, 3, 4, 6, -1}

// chance answers n bytes of a source that is the same in each run.
func chance(source *rand.Rand, n int) []byte {
	b := make([]byte, n)
	source.Read(b)
	return b
}

// hashes answers n hashes by chance, with all their bits.
func hashes(source *rand.Rand, n int) []api.Hash {
	list := make([]api.Hash, n)
	for i := range list {
		source.Read(list[i][:])
	}
	return list
}

// short is one of few texts, so that lists have some in common.
func short(source *rand.Rand) []byte {
	return chance(source, source.Intn(3))
}

// shorts answers a list of n of them.
func shorts(source *rand.Rand, n int) [][]byte {
	list := make([][]byte, n)
	for i := range list {
		list[i] = short(source)
	}
	return list
}

// texts is a list of them, as written.
func texts(list ...string) [][]byte {
	var out [][]byte
	for _, s := range list {
		out = append(out, []byte(s))
	}
	return out
}

// numbered is a list of n texts, each one unlike the others.
func numbered(n int) [][]byte {
	list := make([][]byte, n)
	for i := range list {
		list[i] = []byte(strconv.Itoa(i))
	}
	return list
}

// hash is that of a text, w wide, by the test library and bit by bit.
func hash(w int, text []byte) api.Hash {
	whole := sha256.Sum256(text)
	var h api.Hash
	for i := range min(w, 256) {
		h[i/8] |= whole[i/8] & (0x80 >> (i % 8))
	}
	return h
}

// ofLeaf is what is hashed for a leaf, ofNode for a node.
func ofLeaf(text []byte) []byte {
	return slices.Concat([]byte{0}, text)
}

func ofNode(l, r api.Hash) []byte {
	return slices.Concat([]byte{1}, l[:], r[:])
}

// rows are the hashes of a list's tree from below: the last one of a row that has no other one beside it stands in the
// next row too.
func rows(w int, list [][]byte) [][]api.Hash {
	var row []api.Hash
	for _, text := range list {
		row = append(row, hash(w, ofLeaf(text)))
	}
	all := [][]api.Hash{row}
	for len(row) > 1 {
		var next []api.Hash
		for pair := range slices.Chunk(row, 2) {
			if len(pair) == 2 {
				next = append(next, hash(w, ofNode(pair[0], pair[1])))
			} else {
				next = append(next, pair[0])
			}
		}
		row = next
		all = append(all, row)
	}
	return all
}

// root is that of a list.
func root(w int, list [][]byte) api.Hash {
	if len(list) == 0 {
		return hash(w, nil)
	}
	all := rows(w, list)
	return all[len(all)-1][0]
}

// told is what was hashed on the way from the root of a list down to leaf i, for each place of the way.
func told(w int, list [][]byte, i int) [][]byte {
	all := rows(w, list)
	down := [][]byte{ofLeaf(list[i])}
	for _, row := range all[:len(all)-1] {
		if i^1 < len(row) {
			down = append(down, ofNode(row[i&^1], row[i|1]))
		}
		i /= 2
	}
	slices.Reverse(down)
	return down
}

// climbed is what is hashed on the way from the root down, by a proof of leaf i of n that has as many hashes as it must,
// as RFC 9162 (2.1.3.2) climbs.
func climbed(w int, text []byte, i, n uint64, proof []api.Hash) [][]byte {
	down := [][]byte{ofLeaf(text)}
	first, last := i, n-1
	for _, p := range proof {
		r := hash(w, down[len(down)-1])
		if first%2 == 1 || first == last {
			down = append(down, ofNode(p, r))
			for first%2 == 0 && first != 0 {
				first, last = first/2, last/2
			}
		} else {
			down = append(down, ofNode(r, p))
		}
		first, last = first/2, last/2
	}
	slices.Reverse(down)
	return down
}

// shown is what is hashed over all n leaves on the way from the root down, and the root over the first m, by a proof
// from m to n, m below n, that has as many hashes as it must, as RFC 9162 (2.1.4.2) climbs.
func shown(w int, m, n uint64, old api.Hash, proof []api.Hash) ([][]byte, api.Hash) {
	if m&(m-1) == 0 {
		proof = slices.Concat([]api.Hash{old}, proof)
	}
	first, last := m-1, n-1
	for first%2 == 1 {
		first, last = first/2, last/2
	}
	var down [][]byte
	o, r := proof[0], proof[0]
	for _, p := range proof[1:] {
		text := ofNode(r, p)
		if first%2 == 1 || first == last {
			text, o = ofNode(p, r), hash(w, ofNode(p, o))
			for first%2 == 0 && first != 0 {
				first, last = first/2, last/2
			}
		}
		down, r = append(down, text), hash(w, text)
		first, last = first/2, last/2
	}
	slices.Reverse(down)
	return down, o
}

// answer is what a call answers, and at which place of the way a clash lies, which has how many in all.
type answer struct {
	pair    api.Pair
	errno   api.Errno
	at, all int
}

// apart is the clash of two ways down, where they part.
func apart(a, b [][]byte) answer {
	for at := range min(len(a), len(b)) {
		if !bytes.Equal(a[at], b[at]) {
			return answer{api.Pair{A: a[at], B: b[at]}, api.OK, at, len(a)}
		}
	}
	panic("no clash on the way")
}

func failed(errno api.Errno) answer {
	return answer{errno: errno}
}

// long tells whether a proof has fewer or more hashes than it needs.
func long(has, needs int) api.Errno {
	switch {
	case has < needs:
		return api.ErrShort
	case has > needs:
		return api.ErrLong
	}
	return api.OK
}

// wantLists is what Lists answers. The way down leads to the first texts that are unlike: what lies ahead of them is one
// in both lists, and where lists of one root aren't one, there is a clash.
func wantLists(w int, a, b [][]byte) answer {
	if len(a) != len(b) {
		return failed(api.ErrRange)
	}
	if root(w, a) != root(w, b) {
		return failed(api.ErrForm)
	}
	for i := range a {
		if !bytes.Equal(a[i], b[i]) {
			return apart(told(w, a, i), told(w, b, i))
		}
	}
	return failed(api.ErrNone)
}

func wantPath(w int, list [][]byte, i uint64, text []byte, proof []api.Hash) answer {
	n := uint64(len(list))
	if i >= n {
		return failed(api.ErrRange)
	}
	if errno := long(len(proof), path.Size(i, n)); errno != api.OK {
		return failed(errno)
	}
	down := climbed(w, text, i, n, proof)
	if hash(w, down[0]) != root(w, list) {
		return failed(api.ErrForm)
	}
	if bytes.Equal(text, list[i]) {
		return failed(api.ErrNone)
	}
	return apart(told(w, list, int(i)), down)
}

func wantGrowth(w int, list [][]byte, m uint64, old api.Hash, proof []api.Hash) answer {
	n := uint64(len(list))
	if m == 0 || m > n {
		return failed(api.ErrRange)
	}
	if errno := long(len(proof), growth.Size(m, n)); errno != api.OK {
		return failed(errno)
	}
	if m == n {
		if old != root(w, list) {
			return failed(api.ErrForm)
		}
		return failed(api.ErrNone)
	}
	down, before := shown(w, m, n, old, proof)
	if before != old || hash(w, down[0]) != root(w, list) {
		return failed(api.ErrForm)
	}
	if old == root(w, list[:m]) {
		return failed(api.ErrNone)
	}
	return apart(told(w, list, int(m-1)), down)
}

// held tells whether a call answered what it should, and, of a clash, whether it is one.
func held(t *testing.T, what string, w int, pair api.Pair, errno api.Errno, want answer) {
	t.Helper()
	if errno != want.errno || !bytes.Equal(pair.A, want.pair.A) || !bytes.Equal(pair.B, want.pair.B) {
		t.Fatalf("%s, %d bits wide: %x, %x, %d, want %x, %x, %d", what, w, pair.A, pair.B, errno, want.pair.A, want.pair.B, want.errno)
	}
	if errno == api.OK {
		isClash(t, what, w, pair)
	}
}

// isClash tells whether two texts are one.
func isClash(t *testing.T, what string, w int, pair api.Pair) {
	t.Helper()
	if bytes.Equal(pair.A, pair.B) || hash(w, pair.A) != hash(w, pair.B) || sha.Narrow(sha.Sum(pair.A), w) != sha.Narrow(sha.Sum(pair.B), w) {
		t.Fatalf("%s, %d bits wide: %x and %x are no clash", what, w, pair.A, pair.B)
	}
}

func heldLists(t *testing.T, w int, a, b [][]byte) answer {
	t.Helper()
	want := wantLists(w, a, b)
	pair, errno := clash.Lists(w, a, b)
	held(t, "Lists", w, pair, errno, want)
	return want
}

func heldPath(t *testing.T, w int, list [][]byte, i uint64, text []byte, proof []api.Hash) answer {
	t.Helper()
	want := wantPath(w, list, i, text, proof)
	pair, errno := clash.Path(w, list, i, text, proof)
	held(t, "Path of "+strconv.FormatUint(i, 10), w, pair, errno, want)
	return want
}

func heldGrowth(t *testing.T, w int, list [][]byte, m uint64, old api.Hash, proof []api.Hash) answer {
	t.Helper()
	want := wantGrowth(w, list, m, old, proof)
	pair, errno := clash.Growth(w, list, m, old, proof)
	held(t, "Growth from "+strconv.FormatUint(m, 10), w, pair, errno, want)
	return want
}

// met counts what was answered, so that no test passes by having met nothing.
type met struct {
	errnos map[api.Errno]int
	places map[[2]int]int // of clashes: how far down, of how many places
}

func nothing() met {
	return met{map[api.Errno]int{}, map[[2]int]int{}}
}

func (m met) count(a answer) {
	m.errnos[a.errno]++
	if a.errno == api.OK {
		m.places[[2]int{a.at, a.all}]++
	}
}

// needs that each of the errors was met, and clashes at each place of a way of up to so many places, but the lowest ones
// that there is no clash at.
func (m met) needs(t *testing.T, places, without int, errnos ...api.Errno) {
	t.Helper()
	for _, errno := range errnos {
		if m.errnos[errno] == 0 {
			t.Errorf("%d was never met", errno)
		}
	}
	for all := range places + 1 {
		for at := range all - without {
			if m.places[[2]int{at, all}] == 0 {
				t.Errorf("no clash was met at place %d of %d", at, all)
			}
		}
	}
}

// leaves are those of a list's texts.
func leaves(w int, list [][]byte) []api.Hash {
	var out []api.Hash
	for _, text := range list {
		out = append(out, leaf.Leaf(w, text))
	}
	return out
}

// pathProof is the right proof of leaf i of a list.
func pathProof(t *testing.T, w int, list [][]byte, i int) []api.Hash {
	t.Helper()
	proof, errno := path.Prove(w, leaves(w, list), i, len(list))
	if errno != api.OK {
		t.Fatal(errno)
	}
	return proof
}

// growthProof is the right proof from the first m of a list.
func growthProof(t *testing.T, w int, list [][]byte, m int) []api.Hash {
	t.Helper()
	proof, errno := growth.Prove(w, leaves(w, list), m, len(list))
	if errno != api.OK {
		t.Fatal(errno)
	}
	return proof
}

// The document's examples

func TestExamples(t *testing.T) {
	zero, nine := string(make([]byte, 32)), api.Hash(bytes.Repeat([]byte{9}, 32))
	pair, errno := clash.Lists(0, texts("a"), texts("b"))
	if errno != api.OK || string(pair.A) != "\x00a" || string(pair.B) != "\x00b" {
		t.Errorf("Lists: %x, %x, %d", pair.A, pair.B, errno)
	}
	pair, errno = clash.Path(0, texts("a", "b"), 1, []byte("c"), []api.Hash{nine})
	if errno != api.OK || string(pair.A) != "\x01"+zero+zero || string(pair.B) != "\x01"+string(nine[:])+zero {
		t.Errorf("Path: %x, %x, %d", pair.A, pair.B, errno)
	}
}

// P17.1

// Where all hashes are one, the first texts that are unlike are the clash, be there others behind.
func TestListsOfNoBits(t *testing.T) {
	for _, c := range []struct {
		a, b         [][]byte
		wantA, wantB string
	}{
		{texts("a", "b", "c"), texts("a", "x", "c"), "\x00b", "\x00x"},
		{texts("a", "b", "c"), texts("x", "y", "z"), "\x00a", "\x00x"},
		{texts("a", "b", "c"), texts("a", "b", ""), "\x00c", "\x00"},
		{texts("a", "b", "c", "d", "e"), texts("a", "b", "c", "x", "y"), "\x00d", "\x00x"},
		{texts("", "b"), texts("\x00", "b"), "\x00", "\x00\x00"},
		{texts("\x01"), texts(""), "\x00\x01", "\x00"},
	} {
		for _, w := range []int{0, -1, math.MinInt} {
			pair, errno := clash.Lists(w, c.a, c.b)
			if errno != api.OK || string(pair.A) != c.wantA || string(pair.B) != c.wantB {
				t.Errorf("Lists(%d, %q, %q): %q, %q, %d", w, c.a, c.b, pair.A, pair.B, errno)
			}
		}
	}
}

func TestListsByChance(t *testing.T) {
	source := rand.New(rand.NewSource(1))
	seen := nothing()
	for range 30000 {
		a := shorts(source, source.Intn(11))
		b := slices.Clone(a)
		for i := range b {
			if source.Intn(3) == 0 {
				b[i] = short(source)
			}
		}
		if source.Intn(20) == 0 {
			b = shorts(source, source.Intn(11))
		}
		seen.count(heldLists(t, narrow[source.Intn(len(narrow))], a, b))
	}
	seen.needs(t, 4, 0, api.OK, api.ErrRange, api.ErrForm, api.ErrNone)
}

// Each part of a tree is put in the place of another one of its root, so that the clash is there, or within it; texts
// behind that part that are unlike change nothing, if the roots are one again.
func TestListsOfEachPart(t *testing.T) {
	source := rand.New(rand.NewSource(2))
	seen := nothing()
	for n := 1; n <= 13; n++ {
		for size := 1; size < 2*n; size *= 2 {
			for at := 0; at < n; at += size {
				for _, w := range []int{5, 8} {
					a := numbered(n)
					b := slices.Clone(a)
					for end := at; end < n; end += size {
						other(source, w, a, b, end, min(end+size, n))
					}
					seen.count(heldLists(t, w, a, b))
					seen.count(heldLists(t, w, b, a))
				}
			}
		}
	}
	seen.needs(t, 5, 0, api.OK)
}

// other puts texts by chance in the place of those of b from at to end, till their root is that of a's.
func other(source *rand.Rand, w int, a, b [][]byte, at, end int) {
	want := root(w, a[at:end])
	for slices.EqualFunc(a[at:end], b[at:end], bytes.Equal) || root(w, b[at:end]) != want {
		for i := at; i < end; i++ {
			b[i] = chance(source, 4)
		}
	}
}

// Without as many texts there is no way down, be the roots one.
func TestListsOfOtherLengths(t *testing.T) {
	for n := range 10 {
		for m := range 10 {
			for _, w := range widths {
				pair, errno := clash.Lists(w, numbered(n), numbered(m))
				want := api.ErrNone
				if n != m {
					want = api.ErrRange
				}
				if errno != want || len(pair.A) != 0 || len(pair.B) != 0 {
					t.Fatalf("Lists of %d and %d texts, %d bits wide: %x, %d", n, m, w, pair, errno)
				}
			}
		}
	}
	// One text that is what was hashed for two: the roots are unlike all the same, and more so are the lengths.
	a, b := leaf.Leaf(256, []byte("a")), leaf.Leaf(256, []byte("b"))
	if _, errno := clash.Lists(256, texts("a", "b"), [][]byte{slices.Concat([]byte{1}, a[:], b[:])}); errno != api.ErrRange {
		t.Errorf("Lists of a node's text: %d", errno)
	}
}

// nil and nothing are the same, among lists and among texts.
func TestListsThatAreOne(t *testing.T) {
	for _, w := range widths {
		for _, c := range [][2][][]byte{
			{nil, nil}, {nil, {}}, {{}, nil}, {{}, {}},
			{{nil}, {{}}}, {{{}}, {nil}}, {{nil, []byte("a")}, {{}, []byte("a")}},
		} {
			if pair, errno := clash.Lists(w, c[0], c[1]); errno != api.ErrNone || len(pair.A) != 0 || len(pair.B) != 0 {
				t.Errorf("Lists of %v and %v, %d bits wide: %x, %d", c[0], c[1], w, pair, errno)
			}
		}
	}
}

// Whoever trusts the whole hash: lists that are unlike have no root in common.
func TestListsOfWholeHashes(t *testing.T) {
	for n := 1; n < 20; n++ {
		for i := range n {
			a, b := numbered(n), numbered(n)
			b[i] = append(b[i], 'x')
			for _, w := range []int{256, 255, 129, 64, 257, math.MaxInt} {
				if pair, errno := clash.Lists(w, a, b); errno != api.ErrForm || len(pair.A) != 0 || len(pair.B) != 0 {
					t.Fatalf("Lists of %d texts, unlike at %d, %d bits wide: %x, %d", n, i, w, pair, errno)
				}
				if _, errno := clash.Lists(w, a, numbered(n)); errno != api.ErrNone {
					t.Fatalf("Lists of %d texts twice, %d bits wide: %d", n, w, errno)
				}
			}
		}
	}
}

func TestListsOfManyTexts(t *testing.T) {
	for _, n := range []int{1023, 1024, 1025, 3000} {
		for _, i := range []int{0, 1, 511, 512, n / 2, n - 2, n - 1} {
			a, b := numbered(n), numbered(n)
			b[i] = []byte("x")
			pair, errno := clash.Lists(0, a, b)
			if errno != api.OK || !bytes.Equal(pair.A, ofLeaf(a[i])) || string(pair.B) != "\x00x" {
				t.Errorf("Lists of %d texts, unlike at %d: %x, %d", n, i, pair, errno)
			}
		}
	}
}

// P17.2

// The list's text comes first, and what its proof tells wrong comes ahead of the text.
func TestPathOfNoBits(t *testing.T) {
	zero, nine := api.Hash{}, api.Hash(bytes.Repeat([]byte{9}, 32))
	for _, c := range []struct {
		list         [][]byte
		i            uint64
		proof        []api.Hash
		wantA, wantB string
	}{
		{texts("a"), 0, nil, "\x00a", "\x00x"},
		{texts("a", "b"), 0, []api.Hash{zero}, "\x00a", "\x00x"},
		{texts("a", "b"), 1, []api.Hash{zero}, "\x00b", "\x00x"},
		{texts("a", "b"), 0, []api.Hash{nine}, string(ofNode(zero, zero)), string(ofNode(zero, nine))},
		{texts("a", "b", "c"), 0, []api.Hash{nine, zero}, string(ofNode(zero, zero)), string(ofNode(zero, nine))},
		{texts("a", "b", "c"), 1, []api.Hash{nine, zero}, string(ofNode(zero, zero)), string(ofNode(nine, zero))},
		{texts("a", "b", "c"), 1, []api.Hash{zero, nine}, string(ofNode(zero, zero)), string(ofNode(zero, nine))},
		{texts("a", "b", "c"), 2, []api.Hash{nine}, string(ofNode(zero, zero)), string(ofNode(nine, zero))},
		{texts("a", "b", "c"), 2, []api.Hash{zero}, "\x00c", "\x00x"},
	} {
		for _, w := range []int{0, -1, math.MinInt} {
			pair, errno := clash.Path(w, c.list, c.i, []byte("x"), c.proof)
			if errno != api.OK || string(pair.A) != c.wantA || string(pair.B) != c.wantB {
				t.Errorf("Path(%d, %q, %d, %x): %x, %x, %d", w, c.list, c.i, c.proof, pair.A, pair.B, errno)
			}
		}
	}
}

func TestPathByChance(t *testing.T) {
	source := rand.New(rand.NewSource(3))
	seen := nothing()
	for range 30000 {
		n := 1 + source.Intn(10)
		list, i := shorts(source, n), source.Intn(n)
		w := narrow[source.Intn(len(narrow))]
		text := list[i]
		if source.Intn(4) > 0 {
			text = short(source)
		}
		proof := pathProof(t, w, list, i)
		for k := range proof {
			if source.Intn(4) == 0 {
				proof[k] = hashes(source, 1)[0]
			}
		}
		switch source.Intn(30) {
		case 0:
			proof = proof[:source.Intn(len(proof)+1)]
		case 1:
			proof = append(proof, hashes(source, 1+source.Intn(3))...)
		case 2:
			i += n
		}
		seen.count(heldPath(t, w, list, uint64(i), text, proof))
	}
	seen.needs(t, 4, 0, api.OK, api.ErrRange, api.ErrShort, api.ErrLong, api.ErrForm, api.ErrNone)
}

// At each place of the way a proof deceives that goes on rightly from there to the root.
func TestPathOfEachPlace(t *testing.T) {
	source := rand.New(rand.NewSource(4))
	seen := nothing()
	for n := 1; n <= 17; n++ {
		list := numbered(n)
		for i := range n {
			w := 5 + source.Intn(4)
			right := pathProof(t, w, list, i)
			for turned := range len(right) + 1 {
				proof := slices.Clone(right)
				for {
					copy(proof, hashes(source, turned))
					text := chance(source, 4)
					if hash(w, climbed(w, text, uint64(i), uint64(n), proof)[0]) == root(w, list) {
						seen.count(heldPath(t, w, list, uint64(i), text, proof))
						break
					}
				}
			}
		}
	}
	seen.needs(t, 5, 0, api.OK)
}

// A text that stands there is no deceit, though its proof has hashes that the tree hasn't.
func TestPathOfTheListsText(t *testing.T) {
	source := rand.New(rand.NewSource(5))
	for n := 1; n < 20; n++ {
		list := numbered(n)
		for i := range n {
			for _, w := range widths {
				proof := pathProof(t, w, list, i)
				if w <= 0 {
					proof = hashes(source, len(proof))
				}
				if pair, errno := clash.Path(w, list, uint64(i), list[i], proof); errno != api.ErrNone || len(pair.A) != 0 || len(pair.B) != 0 {
					t.Fatalf("Path of text %d of %d, %d bits wide: %x, %d", i, n, w, pair, errno)
				}
			}
		}
	}
	for _, text := range [][]byte{nil, {}} {
		for _, mine := range [][]byte{nil, {}} {
			for _, proof := range [][]api.Hash{nil, {}} {
				if _, errno := clash.Path(0, [][]byte{mine}, 0, text, proof); errno != api.ErrNone {
					t.Errorf("Path of the empty text: %d", errno)
				}
			}
		}
	}
}

// What doesn't come to the root is no deceit, be the text the list's own, or not.
func TestPathThatDoesNotPass(t *testing.T) {
	for n := 1; n < 12; n++ {
		list := numbered(n)
		for i := range n {
			for _, w := range []int{256, 255, 129, 64, 257, math.MaxInt} {
				right := pathProof(t, w, list, i)
				fails(t, w, list, i, []byte("x"), right)
				for k := range right {
					proof := slices.Clone(right)
					proof[k][k] ^= 0x40
					fails(t, w, list, i, list[i], proof)
					fails(t, w, list, i, []byte("x"), proof)
				}
			}
		}
	}
}

func fails(t *testing.T, w int, list [][]byte, i int, text []byte, proof []api.Hash) {
	t.Helper()
	if pair, errno := clash.Path(w, list, uint64(i), text, proof); errno != api.ErrForm || len(pair.A) != 0 || len(pair.B) != 0 {
		t.Fatalf("Path of %q at %d of %d, %d bits wide: %x, %d", text, i, len(list), w, pair, errno)
	}
}

// The climb's errors come first, a place that there isn't ahead of a proof's length.
func TestPathOfWrongShape(t *testing.T) {
	source := rand.New(rand.NewSource(6))
	for n := range 20 {
		list := numbered(n)
		for _, i := range []uint64{0, 1, 2, 3, 7, 8, 9, 18, 19, 20, 1 << 32, 1 << 63, math.MaxUint64 - 1, math.MaxUint64} {
			for has := range 8 {
				proof := hashes(source, has)
				for _, w := range []int{256, 0} {
					want := wantPath(w, list, i, []byte("x"), proof)
					pair, errno := clash.Path(w, list, i, []byte("x"), proof)
					held(t, "Path", w, pair, errno, want)
					if i >= uint64(n) && errno != api.ErrRange {
						t.Fatalf("Path of text %d of %d: %d", i, n, errno)
					}
				}
			}
		}
	}
	for _, none := range [][][]byte{nil, {}} {
		if _, errno := clash.Path(0, none, 0, nil, nil); errno != api.ErrRange {
			t.Errorf("Path of no texts: %d", errno)
		}
	}
}

// P17.3

func TestGrowthOfNoBits(t *testing.T) {
	zero, eight, nine := api.Hash{}, api.Hash(bytes.Repeat([]byte{8}, 32)), api.Hash(bytes.Repeat([]byte{9}, 32))
	both := string(ofNode(zero, zero))
	for _, c := range []struct {
		n     int
		m     uint64
		old   api.Hash
		proof []api.Hash
		wantB string
	}{
		{2, 1, nine, []api.Hash{eight}, string(ofNode(nine, eight))},
		{2, 1, nine, []api.Hash{zero}, string(ofNode(nine, zero))},
		{3, 1, nine, []api.Hash{zero, zero}, string(ofNode(nine, zero))},
		{3, 1, nine, []api.Hash{zero, eight}, string(ofNode(zero, eight))},
		{3, 2, nine, []api.Hash{eight}, string(ofNode(nine, eight))},
		{5, 4, nine, []api.Hash{zero}, string(ofNode(nine, zero))},
		{8, 4, nine, []api.Hash{zero}, string(ofNode(nine, zero))},
		{8, 2, nine, []api.Hash{zero, zero}, string(ofNode(nine, zero))},
		{8, 2, nine, []api.Hash{eight, zero}, string(ofNode(nine, eight))},
		{8, 2, nine, []api.Hash{zero, eight}, string(ofNode(zero, eight))},
	} {
		for _, w := range []int{0, -1, math.MinInt} {
			pair, errno := clash.Growth(w, numbered(c.n), c.m, c.old, c.proof)
			if errno != api.OK || string(pair.A) != both || string(pair.B) != c.wantB {
				t.Errorf("Growth(%d, %d texts, %d, %x, %x): %x, %x, %d", w, c.n, c.m, c.old, c.proof, pair.A, pair.B, errno)
			}
			if pair, errno := clash.Growth(w, numbered(c.n), c.m, zero, c.proof); errno != api.ErrNone || len(pair.A) != 0 || len(pair.B) != 0 {
				t.Errorf("Growth(%d, %d texts, %d, 0, %x): %x, %d", w, c.n, c.m, c.proof, pair, errno)
			}
		}
	}
	// The root over three is a node's, so that it has no bits, whatever the proof is.
	for old, want := range map[api.Hash]api.Errno{zero: api.ErrNone, nine: api.ErrForm} {
		if _, errno := clash.Growth(0, numbered(4), 3, old, []api.Hash{nine, eight, nine}); errno != want {
			t.Errorf("Growth from 3 to 4, without bits, from %x: %d", old, errno)
		}
	}
}

func TestGrowthByChance(t *testing.T) {
	source := rand.New(rand.NewSource(7))
	seen := nothing()
	for range 60000 {
		n := 1 + source.Intn(11)
		list, m := shorts(source, n), uint64(1+source.Intn(n))
		w := narrow[source.Intn(len(narrow))]
		proof := growthProof(t, w, list, int(m))
		for k := range proof {
			if source.Intn(3) == 0 {
				proof[k] = hashes(source, 1)[0]
			}
		}
		old := root(w, list[:m])
		if source.Intn(3) > 0 {
			old = hashes(source, 1)[0]
		}
		if m < uint64(n) && source.Intn(8) > 0 {
			_, old = shown(w, m, uint64(n), old, proof)
		}
		switch source.Intn(30) {
		case 0:
			proof = proof[:source.Intn(len(proof)+1)]
		case 1:
			proof = append(proof, hashes(source, 1+source.Intn(3))...)
		case 2:
			m += uint64(n)
		case 3:
			m = 0
		}
		seen.count(heldGrowth(t, w, list, m, old, proof))
	}
	seen.needs(t, 4, 1, api.OK, api.ErrRange, api.ErrShort, api.ErrLong, api.ErrForm, api.ErrNone)
}

// At each place of the way a proof deceives that goes on rightly from there to the root.
func TestGrowthOfEachPlace(t *testing.T) {
	source := rand.New(rand.NewSource(8))
	seen := nothing()
	for n := uint64(2); n <= 17; n++ {
		list := numbered(int(n))
		for m := uint64(1); m < n; m++ {
			w := 5 + source.Intn(4)
			right, first := growthProof(t, w, list, int(m)), root(w, list[:m])
			for turned := 1; turned <= len(right); turned++ {
				proof := slices.Clone(right)
				for {
					copy(proof, hashes(source, turned))
					down, old := shown(w, m, n, hashes(source, 1)[0], proof)
					if old != first && hash(w, down[0]) == root(w, list) {
						seen.count(heldGrowth(t, w, list, m, old, proof))
						break
					}
				}
			}
		}
	}
	seen.needs(t, 5, 1, api.OK)
}

// A first tree that is the list's own is no deceit, though the proof has hashes that the tree hasn't.
func TestGrowthFromTheListsBeginning(t *testing.T) {
	source := rand.New(rand.NewSource(9))
	for n := 1; n < 20; n++ {
		list := numbered(n)
		for m := 1; m <= n; m++ {
			for _, w := range widths {
				proof := growthProof(t, w, list, m)
				if w <= 0 {
					proof = hashes(source, len(proof))
				}
				if pair, errno := clash.Growth(w, list, uint64(m), root(w, list[:m]), proof); errno != api.ErrNone || len(pair.A) != 0 || len(pair.B) != 0 {
					t.Fatalf("Growth from %d to %d, %d bits wide: %x, %d", m, n, w, pair, errno)
				}
			}
		}
	}
}

// Both roots must be those that the proof shows.
func TestGrowthThatDoesNotPass(t *testing.T) {
	for n := 1; n < 12; n++ {
		list := numbered(n)
		for m := 1; m <= n; m++ {
			for _, w := range []int{256, 255, 129, 64, 257, math.MaxInt} {
				old, right := root(w, list[:m]), growthProof(t, w, list, m)
				for bit := range 64 {
					turned := old
					turned[bit/8] ^= 0x80 >> (bit % 8)
					if pair, errno := clash.Growth(w, list, uint64(m), turned, right); errno != api.ErrForm || len(pair.A) != 0 || len(pair.B) != 0 {
						t.Fatalf("Growth from %d to %d, %d bits wide, from another old root: %x, %d", m, n, w, pair, errno)
					}
				}
				for k := range right {
					proof := slices.Clone(right)
					proof[k][k] ^= 0x40
					if pair, errno := clash.Growth(w, list, uint64(m), old, proof); errno != api.ErrForm || len(pair.A) != 0 || len(pair.B) != 0 {
						t.Fatalf("Growth from %d to %d, %d bits wide, by another proof: %x, %d", m, n, w, pair, errno)
					}
				}
			}
		}
	}
}

// To as many leaves no proof deceives.
func TestGrowthToTheSame(t *testing.T) {
	source := rand.New(rand.NewSource(10))
	for n := 1; n < 20; n++ {
		list := numbered(n)
		for _, w := range widths {
			for _, proof := range [][]api.Hash{nil, {}} {
				for old, want := range map[api.Hash]api.Errno{root(w, list): api.ErrNone, hashes(source, 1)[0]: api.ErrForm} {
					if pair, errno := clash.Growth(w, list, uint64(n), old, proof); errno != want || len(pair.A) != 0 || len(pair.B) != 0 {
						t.Fatalf("Growth from %d to as many, %d bits wide: %x, %d, want %d", n, w, pair, errno, want)
					}
				}
			}
		}
	}
}

// The climb's errors come first, a step that there isn't ahead of a proof's length.
func TestGrowthOfWrongShape(t *testing.T) {
	source := rand.New(rand.NewSource(11))
	for n := range 20 {
		list := numbered(n)
		for _, m := range []uint64{0, 1, 2, 3, 7, 8, 9, 18, 19, 20, 1 << 32, 1 << 63, math.MaxUint64 - 1, math.MaxUint64} {
			for has := range 9 {
				proof := hashes(source, has)
				for _, w := range []int{256, 0} {
					want := wantGrowth(w, list, m, api.Hash{}, proof)
					pair, errno := clash.Growth(w, list, m, api.Hash{}, proof)
					held(t, "Growth", w, pair, errno, want)
					if (m == 0 || m > uint64(n)) && errno != api.ErrRange {
						t.Fatalf("Growth from %d to %d: %d", m, n, errno)
					}
				}
			}
		}
	}
	for _, none := range [][][]byte{nil, {}} {
		for m := range uint64(2) {
			if _, errno := clash.Growth(0, none, m, api.Hash{}, nil); errno != api.ErrRange {
				t.Errorf("Growth from %d to no texts: %d", m, errno)
			}
		}
	}
}

// P17.4

// Whatever is handed in, and however wide the hashes are: what is answered with OK is a clash.
func TestClashesAreClashes(t *testing.T) {
	source := rand.New(rand.NewSource(12))
	count := map[string]int{}
	see := func(what string, w int, pair api.Pair, errno api.Errno) {
		if errno == api.OK {
			isClash(t, what, w, pair)
			count[what]++
		}
	}
	for range 8000 {
		n := 1 + source.Intn(40)
		w := source.Intn(5) - 1
		a, b := shorts(source, n), shorts(source, n)
		pair, errno := clash.Lists(w, a, b)
		see("Lists", w, pair, errno)
		i := uint64(source.Intn(n))
		pair, errno = clash.Path(w, a, i, short(source), hashes(source, path.Size(i, uint64(n))))
		see("Path", w, pair, errno)
		m := i + 1
		old, proof := hashes(source, 1)[0], hashes(source, growth.Size(m, uint64(n)))
		if m < uint64(n) {
			_, old = shown(w, m, uint64(n), old, proof)
		}
		pair, errno = clash.Growth(w, a, m, old, proof)
		see("Growth", w, pair, errno)
	}
	for _, what := range []string{"Lists", "Path", "Growth"} {
		if count[what] < 400 {
			t.Errorf("%s met %d clashes", what, count[what])
		}
	}
}

// Hashes of two bytes: a list is looked for by its root alone, as whoever deceives would.
func TestClashOfWiderHashes(t *testing.T) {
	source := rand.New(rand.NewSource(13))
	const w = 14
	a := texts("one", "two", "three")
	want := root(w, a)
	for found := 0; found < 3; {
		b := shorts(source, 3)
		b[found] = chance(source, 8)
		if root(w, b) != want {
			continue
		}
		if got := heldLists(t, w, a, b); got.errno != api.OK {
			t.Fatalf("Lists: %d", got.errno)
		}
		if got := heldPath(t, w, a, 1, b[1], pathProof(t, w, b, 1)); got.errno != api.OK {
			t.Fatalf("Path: %d", got.errno)
		}
		if got := heldGrowth(t, w, a, 2, root(w, b[:2]), growthProof(t, w, b, 2)); got.errno != api.OK {
			t.Fatalf("Growth: %d", got.errno)
		}
		found++
	}
}

// What is handed in, and what is answered

// call is one of the three, made with arguments that have spare room behind them.
type call struct {
	what string
	make func() (api.Pair, api.Errno)
}

// spare is a list of texts, with another one in its spare room, and spare room behind each.
func spare(list [][]byte) [][]byte {
	var full [][]byte
	for _, text := range append(slices.Clone(list), []byte("spare")) {
		full = append(full, append(slices.Clone(text), "more"...)[:len(text)])
	}
	return full[:len(list)]
}

// flat is all that a list has, its spare room too.
func flat(list [][]byte) []byte {
	var all []byte
	for _, text := range list[:cap(list)] {
		all = append(append(all, text[:cap(text)]...), ';')
	}
	return all
}

func TestArgumentsStayAndAnswersAreNew(t *testing.T) {
	zero, nine := api.Hash{}, api.Hash(bytes.Repeat([]byte{9}, 32))
	a, b := spare(texts("a", "b", "c", "d", "e")), spare(texts("a", "b", "x", "d", "y"))
	text := append([]byte("x"), "more"...)[:1]
	hard := append(make([]api.Hash, 0, 8), nine, zero, nine, nine)
	soft := append(make([]api.Hash, 0, 8), zero, zero, zero, nine)
	calls := []call{
		{"Lists", func() (api.Pair, api.Errno) { return clash.Lists(0, a, b) }},
		{"Path to a leaf", func() (api.Pair, api.Errno) { return clash.Path(0, a, 2, text, soft[:3]) }},
		{"Path to a node", func() (api.Pair, api.Errno) { return clash.Path(0, a, 2, text, hard[:3]) }},
		{"Growth from one", func() (api.Pair, api.Errno) { return clash.Growth(0, a, 1, nine, soft[:3]) }},
		{"Growth from two", func() (api.Pair, api.Errno) { return clash.Growth(0, a, 2, nine, hard[:2]) }},
		{"Growth from three", func() (api.Pair, api.Errno) { return clash.Growth(0, a, 3, zero, hard[:4]) }},
		{"no Lists", func() (api.Pair, api.Errno) { return clash.Lists(256, a, b) }},
		{"no Path", func() (api.Pair, api.Errno) { return clash.Path(256, a, 2, text, soft[:3]) }},
		{"no Growth", func() (api.Pair, api.Errno) { return clash.Growth(256, a, 2, nine, hard[:2]) }},
	}
	was := slices.Concat(flat(a), flat(b), text[:cap(text)])
	hashesWere := slices.Concat(hard[:cap(hard)], soft[:cap(soft)])
	for _, c := range calls {
		first, errno := c.make()
		second, again := c.make()
		if errno != again || !bytes.Equal(first.A, second.A) || !bytes.Equal(first.B, second.B) {
			t.Errorf("%s: %x, %d, and then %x, %d", c.what, first, errno, second, again)
		}
		spoil(first.A)
		if !bytes.Equal(first.B, second.B) {
			t.Errorf("%s: the two texts share memory", c.what)
		}
		spoil(first.B)
		third, _ := c.make()
		if !bytes.Equal(third.A, second.A) || !bytes.Equal(third.B, second.B) {
			t.Errorf("%s: what was answered is shared", c.what)
		}
		if !bytes.Equal(slices.Concat(flat(a), flat(b), text[:cap(text)]), was) || !slices.Equal(slices.Concat(hard[:cap(hard)], soft[:cap(soft)]), hashesWere) {
			t.Fatalf("%s: what was handed in was changed, or is shared", c.what)
		}
	}
}

// spoil turns a text, and its spare room.
func spoil(text []byte) {
	for i := range text[:cap(text)] {
		text[:cap(text)][i] ^= 0xff
	}
}
