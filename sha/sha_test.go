package sha_test

import (
	"bytes"
	"crypto/sha256"
	"encoding/hex"
	"math"
	"math/rand"
	"strings"
	"testing"

	"tabellion/api"
	"tabellion/sha"
)

// chance answers n bytes of a source that is the same in each run.
func chance(source *rand.Rand, n int) []byte {
	b := make([]byte, n)
	for i := range b {
		b[i] = byte(source.Intn(256))
	}
	return b
}

// written answers the state of a text that is written in pieces of so many bytes.
func written(b []byte, piece int) sha.State {
	var s sha.State
	for len(b) > 0 {
		n := min(piece, len(b))
		s = s.Write(b[:n])
		b = b[n:]
	}
	return s
}

// P3.1

func TestSumKnown(t *testing.T) {
	for _, c := range []struct{ text, want string }{
		{"", "e3b0c44298fc1c149afbf4c8996fb92427ae41e4649b934ca495991b7852b855"},
		{"abc", "ba7816bf8f01cfea414140de5dae2223b00361a396177a9cb410ff61f20015ad"},
		{"abcdbcdecdefdefgefghfghighijhijkijkljklmklmnlmnomnopnopq", "248d6a61d20638b8e5c026930c3e6039a33ce45964ff2167f6ecedd419db06c1"},
		{"abcdefghbcdefghicdefghijdefghijkefghijklfghijklmghijklmnhijklmnoijklmnopjklmnopqklmnopqrlmnopqrsmnopqrstnopqrstu", "cf5b16a778af8380036ce59e7b0492370b249b11e8f07a51afac45037afee9d1"},
		{strings.Repeat("a", 1000000), "cdc76e5c9914fb9281a1c7e284d73e67f1809a48a497200e046d39ccc7112cd0"},
	} {
		if got := sha.Sum([]byte(c.text)); hex.EncodeToString(got[:]) != c.want {
			t.Errorf("Sum of %d bytes: %x, want %s", len(c.text), got, c.want)
		}
	}
}

func TestSumOfNothing(t *testing.T) {
	if sha.Sum(nil) != sha.Sum([]byte{}) || sha.Sum(nil) != sha256.Sum256(nil) {
		t.Errorf("Sum of nothing: %x, %x", sha.Sum(nil), sha.Sum([]byte{}))
	}
}

func TestSumOfEachLength(t *testing.T) {
	source := rand.New(rand.NewSource(1))
	for n := range 600 {
		for _, b := range [][]byte{chance(source, n), make([]byte, n), bytes.Repeat([]byte{0xff}, n), bytes.Repeat([]byte{0x80}, n)} {
			if got := sha.Sum(b); got != sha256.Sum256(b) {
				t.Fatalf("Sum(%x): %x, want %x", b, got, sha256.Sum256(b))
			}
		}
	}
}

// The number of bits takes each of its lower bytes here.
func TestSumOfLongTexts(t *testing.T) {
	source := rand.New(rand.NewSource(2))
	whole := chance(source, 1<<21+200)
	for _, middle := range []int{1 << 10, 1 << 13, 1 << 16, 1 << 21} {
		for _, n := range []int{middle - 9, middle - 8, middle - 1, middle, middle + 1, middle + 55, middle + 56, middle + 63, middle + 64} {
			if got := sha.Sum(whole[:n]); got != sha256.Sum256(whole[:n]) {
				t.Errorf("Sum of %d bytes: %x, want %x", n, got, sha256.Sum256(whole[:n]))
			}
		}
	}
}

// 2^29 bytes have 2^32 bits.
func TestSumOfMoreBitsThanAWordCounts(t *testing.T) {
	if testing.Short() {
		t.Skip("takes some seconds")
	}
	piece := make([]byte, 1<<20)
	var got sha.State
	want := sha256.New()
	for range 1 << 9 {
		got = got.Write(piece)
		want.Write(piece)
	}
	got = got.Write([]byte("end"))
	want.Write([]byte("end"))
	if hash := got.Sum(); !bytes.Equal(hash[:], want.Sum(nil)) || got.Len() != 1<<29+3 {
		t.Errorf("Sum of %d bytes: %x, want %x", got.Len(), hash, want.Sum(nil))
	}
}

func TestTextIsLeftAsItIs(t *testing.T) {
	was := chance(rand.New(rand.NewSource(3)), 300)
	full := append([]byte{}, was...)
	for _, n := range []int{0, 1, 55, 56, 63, 64, 65, 128, 200} {
		sha.Sum(full[:n])
		sha.State{}.Write(full[:n]).Sum()
	}
	if !bytes.Equal(full, was) {
		t.Errorf("the text, or its spare room, is now %x", full)
	}
}

// P3.2

func TestZeroStateHasNothing(t *testing.T) {
	var s sha.State
	if s.Len() != 0 || s.Sum() != sha256.Sum256(nil) {
		t.Errorf("the zero State: %d bytes, %x", s.Len(), s.Sum())
	}
	for _, nothing := range [][]byte{nil, {}} {
		if s = s.Write(nothing); s.Len() != 0 || s.Sum() != sha256.Sum256(nil) {
			t.Errorf("nothing written: %d bytes, %x", s.Len(), s.Sum())
		}
	}
}

func TestPiecesMakeTheWhole(t *testing.T) {
	whole := chance(rand.New(rand.NewSource(4)), 260)
	for n := range len(whole) + 1 {
		want := sha256.Sum256(whole[:n])
		for _, piece := range []int{1, 2, 3, 7, 31, 32, 63, 64, 65, 127, 128, 129, 200} {
			s := written(whole[:n], piece)
			if s.Sum() != want || s.Len() != uint64(n) {
				t.Fatalf("%d bytes in pieces of %d: %d bytes, %x, want %x", n, piece, s.Len(), s.Sum(), want)
			}
			if s != (sha.State{}).Write(whole[:n]) {
				t.Fatalf("%d bytes in pieces of %d make another state", n, piece)
			}
		}
	}
}

func TestTwoPieces(t *testing.T) {
	whole := chance(rand.New(rand.NewSource(5)), 200)
	for _, n := range []int{1, 55, 56, 63, 64, 65, 119, 120, 128, 129, 200} {
		want := sha256.Sum256(whole[:n])
		for first := range n + 1 {
			s := sha.State{}.Write(whole[:first]).Write(nil).Write(whole[first:n])
			if s.Sum() != want || s.Len() != uint64(n) {
				t.Fatalf("%d and %d bytes: %d bytes, %x, want %x", first, n-first, s.Len(), s.Sum(), want)
			}
		}
	}
}

func TestLenOfEachState(t *testing.T) {
	var s sha.State
	for n := range uint64(300) {
		if s.Len() != n {
			t.Fatalf("Len behind %d bytes: %d", n, s.Len())
		}
		s = s.Write([]byte{byte(n)})
	}
}

// From a state of each length go several others, and none of them is seen in another one.
func TestStatesAreValues(t *testing.T) {
	source := rand.New(rand.NewSource(6))
	for n := range 140 {
		head := chance(source, n)
		s := sha.State{}.Write(head)
		same := s
		var tails [][]byte
		var others []sha.State
		for _, more := range []int{1, 8, 9, 63, 64, 65, 130} {
			tail := chance(source, more)
			tails = append(tails, tail)
			others = append(others, s.Write(tail))
		}
		for i, other := range others {
			want := sha256.Sum256(append(append([]byte{}, head...), tails[i]...))
			if other.Sum() != want || other.Len() != uint64(n+len(tails[i])) {
				t.Fatalf("%d and %d bytes: %d bytes, %x, want %x", n, len(tails[i]), other.Len(), other.Sum(), want)
			}
		}
		for _, was := range []sha.State{s, same} {
			if was.Sum() != sha256.Sum256(head) || was.Len() != uint64(n) {
				t.Fatalf("the state of %d bytes: %d bytes, %x", n, was.Len(), was.Sum())
			}
		}
	}
}

// A state can be summed at any time, twice too, and written to behind that.
func TestSumLeavesTheState(t *testing.T) {
	whole := chance(rand.New(rand.NewSource(7)), 150)
	var s sha.State
	for n := range whole {
		if s.Sum() != sha256.Sum256(whole[:n]) || s.Sum() != sha256.Sum256(whole[:n]) || s.Len() != uint64(n) {
			t.Fatalf("the state of %d bytes: %d bytes, %x", n, s.Len(), s.Sum())
		}
		s = s.Write(whole[n : n+1])
	}
}

func TestWriteKeepsNothing(t *testing.T) {
	for _, n := range []int{1, 63, 64, 65, 100} {
		b := chance(rand.New(rand.NewSource(8)), n)
		want := sha256.Sum256(b)
		s := sha.State{}.Write(b)
		for i := range b {
			b[i] ^= 0xff
		}
		if s.Sum() != want {
			t.Errorf("the state of %d bytes goes with the text that was handed in", n)
		}
	}
}

// P3.3

// first answers a hash of which only the first bits are kept, one by one.
func first(h api.Hash, n int) api.Hash {
	var out api.Hash
	for i := range 256 {
		if i < n {
			out[i/8] |= h[i/8] & (0x80 >> (i % 8))
		}
	}
	return out
}

func TestNarrowExample(t *testing.T) {
	if got := sha.Narrow(sha.Sum([]byte("abc")), 12); got != (api.Hash{0xba, 0x70}) {
		t.Errorf("Narrow to 12 bits: %x", got)
	}
}

func TestNarrowToEachWidth(t *testing.T) {
	var ones api.Hash
	for i := range ones {
		ones[i] = 0xff
	}
	for _, h := range []api.Hash{{}, ones, sha.Sum(nil), sha.Sum([]byte("abc"))} {
		for n := -20; n < 300; n++ {
			was := h
			if got := sha.Narrow(h, n); got != first(was, n) || h != was {
				t.Errorf("Narrow(%x, %d): %x, want %x", was, n, got, first(was, n))
			}
		}
	}
}

func TestNarrowToAnyInt(t *testing.T) {
	h := sha.Sum([]byte("abc"))
	for _, n := range []int{256, 257, 263, 264, 511, 512, 1 << 16, math.MaxInt32, math.MaxInt - 7, math.MaxInt} {
		if got := sha.Narrow(h, n); got != h {
			t.Errorf("Narrow to %d bits: %x", n, got)
		}
	}
	for _, n := range []int{0, -1, -7, -8, -255, -256, -1 << 16, math.MinInt32, math.MinInt + 7, math.MinInt} {
		if got := sha.Narrow(h, n); got != (api.Hash{}) {
			t.Errorf("Narrow to %d bits: %x", n, got)
		}
	}
}
