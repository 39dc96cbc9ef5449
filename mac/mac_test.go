package mac_test

import (
	"bytes"
	"crypto/hmac"
	"crypto/sha256"
	"encoding/hex"
	"math"
	"math/rand"
	"strings"
	"testing"

	"tabellion/api"
	"tabellion/bin"
	"tabellion/mac"
	"tabellion/sha"
)

// chance answers n bytes of a source that is the same in each run.
func chance(source *rand.Rand, n int) []byte {
	b := make([]byte, n)
	for i := range b {
		b[i] = byte(source.Intn(256))
	}
	return b
}

// marked is the mark of a text by a key, as the test library has it.
func marked(key, text []byte) (mark api.Hash) {
	h := hmac.New(sha256.New, key)
	h.Write(text)
	copy(mark[:], h.Sum(nil))
	return mark
}

// spelled is the mark of a text by a key, step by step as the chapter says it.
func spelled(key, text []byte) api.Hash {
	if len(key) > 64 {
		hash := sha256.Sum256(key)
		key = hash[:]
	}
	k := append(append([]byte{}, key...), make([]byte, 64-len(key))...)
	var inner, outer []byte
	for _, c := range k {
		inner = append(inner, c^0x36)
		outer = append(outer, c^0x5c)
	}
	hash := sha256.Sum256(append(inner, text...))
	return sha256.Sum256(append(outer, hash[:]...))
}

// edges are lengths about those where a key is hashed, and where a block of the hash ends.
var edges = []int{0, 1, 2, 20, 31, 32, 33, 55, 56, 63, 64, 65, 66, 119, 120, 127, 128, 129, 192, 200, 1000}

// P4.1

func TestMarkKnown(t *testing.T) {
	const fox = "The quick brown fox jumps over the lazy dog"
	for _, c := range []struct{ key, text, want string }{
		{"key", fox, "f7bc83f430538424b13298e6aa6fb143ef4d59a14946175997479dbc2d1a3cd8"},
		{"", "", "b613679a0814d9ec772f95d778c35fc5ff1697c493715653c6c712144292c5ad"},
		// Those of RFC 4231 that aren't shortened.
		{strings.Repeat("\x0b", 20), "Hi There", "b0344c61d8db38535ca8afceaf0bf12b881dc200c9833da726e9376c2e32cff7"},
		{"Jefe", "what do ya want for nothing?", "5bdcc146bf60754e6a042426089575c75a003f089d2739839dec58b964ec3843"},
		{strings.Repeat("\xaa", 20), strings.Repeat("\xdd", 50), "773ea91e36800e46854db8ebd09181a72959098b3ef8c122d9635514ced565fe"},
		{strings.Repeat("\xaa", 131), "Test Using Larger Than Block-Size Key - Hash Key First", "60e431591ee0b67f0d8a26aacbf5b77f8e0bc6213728c5140546040f0ee37f54"},
		{strings.Repeat("\xaa", 131), "This is a test using a larger than block-size key and a larger than block-size data. The key needs to be hashed before being used by the HMAC algorithm.", "9b09ffa71b942fcb27635fbcd5b0e944bfdc63644f0713938a7f51535c3a35e2"},
	} {
		if got := mac.Mark([]byte(c.key), []byte(c.text)); hex.EncodeToString(got[:]) != c.want {
			t.Errorf("Mark(%q, %q): %x, want %s", c.key, c.text, got, c.want)
		}
	}
}

func TestMarkByKeysOfEachLength(t *testing.T) {
	source := rand.New(rand.NewSource(1))
	for n := range 300 {
		for _, key := range [][]byte{chance(source, n), make([]byte, n), bytes.Repeat([]byte{0xff}, n), bytes.Repeat([]byte{0x36}, n), bytes.Repeat([]byte{0x5c}, n)} {
			for _, text := range [][]byte{nil, []byte("a"), chance(source, 100)} {
				got := mac.Mark(key, text)
				if got != marked(key, text) || got != spelled(key, text) {
					t.Fatalf("Mark(%x, %x): %x, want %x", key, text, got, marked(key, text))
				}
			}
		}
	}
}

func TestMarkOfTextsOfEachLength(t *testing.T) {
	source := rand.New(rand.NewSource(2))
	for n := range 300 {
		text := chance(source, n)
		for _, size := range []int{0, 7, 64, 65} {
			key := chance(source, size)
			if got := mac.Mark(key, text); got != marked(key, text) {
				t.Fatalf("Mark(%x, %x): %x, want %x", key, text, got, marked(key, text))
			}
		}
	}
}

func TestMarkOfALongTextByALongKey(t *testing.T) {
	source := rand.New(rand.NewSource(3))
	key, text := chance(source, 1<<17+3), chance(source, 1<<20+5)
	if got := mac.Mark(key, text); got != marked(key, text) {
		t.Errorf("%x, want %x", got, marked(key, text))
	}
}

// A key of 64 bytes counts as it is; one of 65 counts as its hash.
func TestKeysThatCountAlike(t *testing.T) {
	source := rand.New(rand.NewSource(4))
	text := []byte("text")
	for _, n := range edges {
		key := chance(source, n)
		hash := sha.Sum(key)
		asHash := mac.Mark(hash[:], text)
		if got := mac.Mark(key, text); (got == asHash) != (n > 64) {
			t.Errorf("a key of %d bytes: %x, its hash: %x", n, got, asHash)
		}
		longer := append(append([]byte{}, key...), 0)
		if got := mac.Mark(longer, text); (got == mac.Mark(key, text)) != (n < 64) {
			t.Errorf("a key of %d bytes, and with a byte 0 behind it: %x, %x", n, mac.Mark(key, text), got)
		}
	}
}

func TestMarkOfNothing(t *testing.T) {
	want := marked(nil, nil)
	for _, key := range [][]byte{nil, {}, make([]byte, 64)} {
		for _, text := range [][]byte{nil, {}} {
			if got := mac.Mark(key, text); got != want {
				t.Errorf("Mark(%v, %v): %x, want %x", key, text, got, want)
			}
		}
	}
}

// Each bit of the key, and of the text, has its part in the mark.
func TestEachBitCounts(t *testing.T) {
	source := rand.New(rand.NewSource(5))
	for _, n := range []int{1, 63, 64, 65, 130} {
		key, text := chance(source, n), chance(source, n)
		was := mac.Mark(key, text)
		for _, part := range [][]byte{key, text} {
			for i := range 8 * n {
				part[i/8] ^= 1 << (i % 8)
				if mac.Mark(key, text) == was {
					t.Fatalf("bit %d of %d bytes turned: the same mark", i, n)
				}
				part[i/8] ^= 1 << (i % 8)
			}
		}
	}
}

// The key and the text don't run into one another.
func TestKeyAndTextAreApart(t *testing.T) {
	if mac.Mark([]byte("ab"), []byte("c")) == mac.Mark([]byte("a"), []byte("bc")) || mac.Mark([]byte("a"), []byte("b")) == mac.Mark([]byte("b"), []byte("a")) {
		t.Error("one mark for several keys")
	}
}

func TestArgumentsAreLeftAsTheyAre(t *testing.T) {
	source := rand.New(rand.NewSource(6))
	wasKey, wasText := chance(source, 1200), chance(source, 1200)
	key, text := append([]byte{}, wasKey...), append([]byte{}, wasText...)
	for _, n := range edges {
		for _, m := range edges {
			mac.Mark(key[:n], text[:m])
			mac.New(key[:n]).Write(text[:m]).Mark()
		}
		mac.Derive(key[:n], uint64(n))
	}
	if !bytes.Equal(key, wasKey) || !bytes.Equal(text, wasText) {
		t.Error("a key or a text, or its spare room, is changed")
	}
}

// The key and the text may lie in one memory, over one another too.
func TestKeyThatIsTheText(t *testing.T) {
	both := chance(rand.New(rand.NewSource(7)), 150)
	for _, n := range []int{10, 64, 65, 150} {
		if got := mac.Mark(both[:n], both); got != marked(both[:n], both) {
			t.Errorf("a key of %d bytes that begins the text: %x", n, got)
		}
	}
}

// P4.2

func TestNewHasNothing(t *testing.T) {
	source := rand.New(rand.NewSource(8))
	for _, n := range edges {
		key := chance(source, n)
		m := mac.New(key)
		for range 3 {
			if m.Mark() != marked(key, nil) {
				t.Errorf("nothing written, a key of %d bytes: %x, want %x", n, m.Mark(), marked(key, nil))
			}
			m = m.Write(nil).Write([]byte{})
		}
		if m != mac.New(key) {
			t.Errorf("a key of %d bytes: nothing written makes another marker", n)
		}
	}
}

func TestZeroMarker(t *testing.T) {
	var zero mac.Marker
	if zero.Mark() != marked(nil, nil) || zero.Mark() != mac.New(nil).Mark() {
		t.Errorf("the zero Marker: %x, want %x", zero.Mark(), marked(nil, nil))
	}
	if zero != mac.New(nil) || zero != mac.New([]byte{}) {
		t.Error("the zero Marker isn't that of the empty key")
	}
	text := chance(rand.New(rand.NewSource(9)), 200)
	for n := range text {
		want := marked(nil, text[:n])
		if got := zero.Write(text[:n]).Mark(); got != want {
			t.Fatalf("%d bytes written to the zero Marker: %x, want %x", n, got, want)
		}
		if got := zero.Write(nil).Write(text[:n/2]).Write(text[n/2 : n]).Mark(); got != want {
			t.Fatalf("%d and %d bytes written to the zero Marker: %x, want %x", n/2, n-n/2, got, want)
		}
	}
	if zero != (mac.Marker{}) {
		t.Error("the zero Marker has changed")
	}
}

func TestPiecesMakeTheWhole(t *testing.T) {
	source := rand.New(rand.NewSource(10))
	for _, size := range []int{0, 1, 32, 64, 65, 100} {
		key, whole := chance(source, size), chance(source, 200)
		for n := range len(whole) + 1 {
			want := marked(key, whole[:n])
			for _, piece := range []int{1, 3, 63, 64, 65, 128, 300} {
				m := mac.New(key)
				for at := 0; at < n; at += piece {
					m = m.Write(whole[at:min(at+piece, n)])
				}
				if m.Mark() != want {
					t.Fatalf("a key of %d bytes, %d bytes in pieces of %d: %x, want %x", size, n, piece, m.Mark(), want)
				}
			}
		}
	}
}

// From a marker of each length go several others, and none of them is seen in another one.
func TestMarkersAreValues(t *testing.T) {
	source := rand.New(rand.NewSource(11))
	for n := range 140 {
		key, head := chance(source, n), chance(source, n)
		m := mac.New(key).Write(head)
		same := m
		var tails [][]byte
		var others []mac.Marker
		for _, more := range []int{1, 8, 63, 64, 65, 130} {
			tail := chance(source, more)
			tails = append(tails, tail)
			others = append(others, m.Write(tail))
		}
		for i, other := range others {
			want := marked(key, append(append([]byte{}, head...), tails[i]...))
			if other.Mark() != want {
				t.Fatalf("%d and %d bytes: %x, want %x", n, len(tails[i]), other.Mark(), want)
			}
		}
		for _, was := range []mac.Marker{m, same} {
			if was.Mark() != marked(key, head) {
				t.Fatalf("the marker of %d bytes: %x, want %x", n, was.Mark(), marked(key, head))
			}
		}
	}
}

// A marker can be asked for its mark at any time, twice too, and written to behind that.
func TestMarkLeavesTheMarker(t *testing.T) {
	key, whole := []byte("key"), chance(rand.New(rand.NewSource(12)), 150)
	m := mac.New(key)
	for n := range whole {
		was := m
		if want := marked(key, whole[:n]); m.Mark() != want || m.Mark() != want || m != was {
			t.Fatalf("the marker of %d bytes: %x, want %x", n, m.Mark(), want)
		}
		m = m.Write(whole[n : n+1])
	}
}

// Two markers under way, each by its own key, are nothing to one another.
func TestMarkersOfTwoKeys(t *testing.T) {
	first, second := mac.New([]byte("first")), mac.New([]byte("second"))
	for i := range 100 {
		first, second = first.Write([]byte{byte(i)}), second.Write([]byte{byte(i)})
	}
	text := make([]byte, 100)
	for i := range text {
		text[i] = byte(i)
	}
	if first.Mark() != marked([]byte("first"), text) || second.Mark() != marked([]byte("second"), text) {
		t.Errorf("%x, %x", first.Mark(), second.Mark())
	}
}

func TestMarkerKeepsNothing(t *testing.T) {
	source := rand.New(rand.NewSource(13))
	for _, n := range edges[1:] {
		key, text := chance(source, n), chance(source, n)
		want, wantAll := marked(key, text), marked(key, append(append([]byte{}, text...), "end"...))
		m := mac.New(key)
		for i := range key {
			key[i] ^= 0xff
		}
		m = m.Write(text)
		for i := range text {
			text[i] ^= 0xff
		}
		if m.Mark() != want || m.Write([]byte("end")).Mark() != wantAll {
			t.Errorf("the marker of %d bytes goes with the key or the text that was handed in", n)
		}
	}
}

// P4.3

func TestDerive(t *testing.T) {
	source := rand.New(rand.NewSource(14))
	nodes := []uint64{0, 1, 2, 5, api.MaxNodes, api.MaxNodes + 1, 255, 256, 257, 1<<16 - 1, 1 << 16, 1<<32 - 1, 1 << 32, 1<<56 - 1, 1 << 56, api.MaxTerm, 1 << 63, math.MaxUint64}
	for _, n := range edges {
		key := chance(source, n)
		for _, node := range nodes {
			text := append([]byte("node"), bin.Num(node)...)
			if got := mac.Derive(key, node); got != marked(key, text) || got != mac.Mark(key, text) {
				t.Errorf("Derive by a key of %d bytes, node %d: %x, want %x", n, node, got, marked(key, text))
			}
		}
	}
}

func TestDeriveSpelled(t *testing.T) {
	for _, c := range []struct {
		node uint64
		text string
	}{
		{0, "node\x00"},
		{5, "node\x01\x05"},
		{256, "node\x02\x01\x00"},
		{math.MaxUint64, "node\x08\xff\xff\xff\xff\xff\xff\xff\xff"},
	} {
		if got := mac.Derive([]byte("all"), c.node); got != marked([]byte("all"), []byte(c.text)) {
			t.Errorf("Derive for node %d: %x", c.node, got)
		}
	}
}

func TestDeriveByTheEmptyKey(t *testing.T) {
	want := marked(nil, []byte("node\x01\x01"))
	if mac.Derive(nil, 1) != want || mac.Derive([]byte{}, 1) != want {
		t.Errorf("%x, %x, want %x", mac.Derive(nil, 1), mac.Derive([]byte{}, 1), want)
	}
}

func TestEachNodeHasItsOwnKey(t *testing.T) {
	seen := map[api.Hash]uint64{}
	for node := range uint64(1000) {
		key := mac.Derive([]byte("all"), node)
		if other, ok := seen[key]; ok {
			t.Errorf("nodes %d and %d have one key", other, node)
		}
		seen[key] = node
	}
}
