package bin_test

import (
	"bytes"
	"math"
	"testing"

	"tabellion/api"
	"tabellion/bin"
)

// edges answers the numbers around each power of 256, and the ends.
func edges() []uint64 {
	list := []uint64{0, 1, 2, 5, 127, 128}
	for shift := 8; shift < 64; shift += 8 {
		p := uint64(1) << shift
		list = append(list, p-1, p, p+1)
	}
	return append(list, math.MaxInt64, math.MaxInt64+1, math.MaxUint64-1, math.MaxUint64)
}

// many answers n bytes, no two neighbours alike.
func many(n int) []byte {
	b := make([]byte, n)
	for i := range b {
		b[i] = byte(i*7 + n)
	}
	return b
}

// scribble writes over all of a list's memory, its spare room too.
func scribble(b []byte) {
	full := b[:cap(b)]
	for i := range full {
		full[i] = '!'
	}
}

// P1.1

func TestNumBytes(t *testing.T) {
	for _, c := range []struct {
		n    uint64
		want string
	}{
		{0, "\x00"},
		{1, "\x01\x01"},
		{5, "\x01\x05"},
		{255, "\x01\xff"},
		{256, "\x02\x01\x00"},
		{65535, "\x02\xff\xff"},
		{65536, "\x03\x01\x00\x00"},
		{0x0102030405, "\x05\x01\x02\x03\x04\x05"},
		{0x0102030405060708, "\x08\x01\x02\x03\x04\x05\x06\x07\x08"},
		{math.MaxUint64, "\x08\xff\xff\xff\xff\xff\xff\xff\xff"},
	} {
		if got := bin.Num(c.n); string(got) != c.want {
			t.Errorf("Num(%d): %x, want %x", c.n, got, c.want)
		}
	}
}

func TestNumIsShortest(t *testing.T) {
	for _, n := range edges() {
		b := bin.Num(n)
		if len(b) != int(b[0])+1 || len(b) > 1 && b[1] == 0 {
			t.Errorf("Num(%d): %x", n, b)
		}
		var back uint64
		for _, c := range b[1:] {
			back = back<<8 + uint64(c)
		}
		if back != n {
			t.Errorf("Num(%d): %x says %d", n, b, back)
		}
	}
}

func TestRawBytes(t *testing.T) {
	for _, c := range []struct {
		text []byte
		head string
	}{
		{nil, "\x00"},
		{[]byte{}, "\x00"},
		{[]byte("ab"), "\x01\x02"},
		{[]byte{0}, "\x01\x01"},
		{many(255), "\x01\xff"},
		{many(256), "\x02\x01\x00"},
		{many(65536), "\x03\x01\x00\x00"},
	} {
		if got := bin.Raw(c.text); string(got) != c.head+string(c.text) {
			t.Errorf("Raw of %d bytes: %d bytes", len(c.text), len(got))
		}
	}
}

func TestRawIsNewMemory(t *testing.T) {
	whole := []byte("abcdefghijklmnop")
	text := whole[:2]
	scribble(bin.Raw(text))
	if string(whole) != "abcdefghijklmnop" {
		t.Errorf("the argument, or its spare room, became %q", whole)
	}
	again := bin.Raw(text)
	whole[0] = 'z'
	if string(again) != "\x01\x02ab" {
		t.Errorf("the answer became %q", again)
	}
}

// P1.2

func TestNewKeepsNothing(t *testing.T) {
	b := []byte("\x01\x02ab\x01\x07")
	r := bin.New(b)
	for i := range b {
		b[i] = 0xee
	}
	text, e1 := r.Raw(2)
	n, e2 := r.Num()
	if string(text) != "ab" || n != 7 || e1 != api.OK || e2 != api.OK || r.End() != api.OK {
		t.Error(text, e1, n, e2)
	}
}

func TestReadingChangesNothing(t *testing.T) {
	whole := []byte("\x01\x02abspare room")
	r := bin.New(whole[:4])
	text, e := r.Raw(9)
	if string(text) != "ab" || e != api.OK {
		t.Fatal(text, e)
	}
	scribble(text)
	if string(whole) != "\x01\x02abspare room" {
		t.Errorf("what was handed in became %q", whole)
	}
	if r.End() != api.OK {
		t.Error("the reader has read spare room")
	}
}

func TestTextsShareNothing(t *testing.T) {
	r := bin.New([]byte("\x01\x02ab\x01\x02cd"))
	first, _ := r.Raw(2)
	scribble(first)
	second, e := r.Raw(2)
	scribble(first)
	if string(second) != "cd" || e != api.OK || r.End() != api.OK {
		t.Error(second, e)
	}
}

func TestByte(t *testing.T) {
	r := bin.New([]byte{0, 7, 255})
	for i, want := range []byte{0, 7, 255} {
		if r.Left() != 3-i {
			t.Error("left:", r.Left())
		}
		if c, e := r.Byte(); c != want || e != api.OK {
			t.Error(c, e)
		}
	}
	if c, e := r.Byte(); c != 0 || e != api.ErrShort || r.Left() != 0 {
		t.Error(c, e, r.Left())
	}
}

func TestNumFaults(t *testing.T) {
	for _, c := range []struct {
		b    string
		n    uint64
		want api.Errno
		left int
	}{
		{"", 0, api.ErrShort, 0},
		{"\x00", 0, api.OK, 0},
		{"\x00\x00", 0, api.OK, 1},
		{"\x01", 0, api.ErrShort, 1},
		{"\x01\x00", 0, api.ErrForm, 2},
		{"\x01\x07", 7, api.OK, 0},
		{"\x01\x07\x08", 7, api.OK, 1},
		{"\x02\x00", 0, api.ErrForm, 2}, // the 0 is told ahead of the end
		{"\x02\x00\x07", 0, api.ErrForm, 3},
		{"\x02\x01", 0, api.ErrShort, 2},
		{"\x02\x01\x00", 256, api.OK, 0},
		{"\x08", 0, api.ErrShort, 1},
		{"\x08\x00", 0, api.ErrForm, 2},
		{"\x08\x01\x02\x03\x04\x05\x06\x07", 0, api.ErrShort, 8},
		{"\x08\xff\xff\xff\xff\xff\xff\xff\xff", math.MaxUint64, api.OK, 0},
		{"\x09", 0, api.ErrForm, 1}, // the width is told ahead of the end
		{"\x09\x01\x02\x03\x04\x05\x06\x07\x08\x09", 0, api.ErrForm, 10},
		{"\xff", 0, api.ErrForm, 1},
	} {
		r := bin.New([]byte(c.b))
		if n, e := r.Num(); n != c.n || e != c.want || r.Left() != c.left {
			t.Errorf("%x: %d, %d, left %d; want %d, %d, left %d", c.b, n, e, r.Left(), c.n, c.want, c.left)
		}
	}
}

func TestRawFaults(t *testing.T) {
	for _, c := range []struct {
		b    string
		most int
		text string
		want api.Errno
		left int
	}{
		{"", 0, "", api.ErrShort, 0},
		{"\x09", 0, "", api.ErrForm, 1},
		{"\x01", 0, "", api.ErrShort, 1},
		{"\x01\x00", 0, "", api.ErrForm, 2},
		{"\x02\x01", 0, "", api.ErrShort, 2},
		{"\x00", 0, "", api.OK, 0},
		{"\x00", -1, "", api.OK, 0},
		{"\x00", math.MinInt, "", api.OK, 0},
		{"\x00a", 5, "", api.OK, 1},
		{"\x01\x01a", -1, "", api.ErrLong, 3},
		{"\x01\x01a", math.MinInt, "", api.ErrLong, 3},
		{"\x01\x01a", 0, "", api.ErrLong, 3},
		{"\x01\x01a", 1, "a", api.OK, 0},
		{"\x01\x02abc", 1, "", api.ErrLong, 5},
		{"\x01\x02abc", 2, "ab", api.OK, 1},
		{"\x01\x02abc", math.MaxInt, "ab", api.OK, 1},
		{"\x01\x03ab", 2, "", api.ErrLong, 4}, // too long is told ahead of the end
		{"\x01\x03ab", 3, "", api.ErrShort, 4},
		{"\x01\x03", 3, "", api.ErrShort, 2},
		{"\x08\xff\xff\xff\xff\xff\xff\xff\xffab", math.MaxInt, "", api.ErrLong, 11},
		{"\x08\x80\x00\x00\x00\x00\x00\x00\x00ab", math.MaxInt, "", api.ErrLong, 11},
		{"\x08\x7f\xff\xff\xff\xff\xff\xff\xffab", math.MaxInt, "", api.ErrShort, 11},
	} {
		r := bin.New([]byte(c.b))
		text, e := r.Raw(c.most)
		if string(text) != c.text || e != c.want || r.Left() != c.left {
			t.Errorf("%x, %d: %q, %d, left %d; want %q, %d, left %d", c.b, c.most, text, e, r.Left(), c.text, c.want, c.left)
		}
		if e != api.OK && text != nil {
			t.Errorf("%x, %d: a text beside an error", c.b, c.most)
		}
	}
}

func TestEnd(t *testing.T) {
	for _, b := range [][]byte{nil, {}} {
		r := bin.New(b)
		if r.End() != api.OK || r.Left() != 0 || r.End() != api.OK {
			t.Error("the end isn't told")
		}
	}
	r := bin.New([]byte{1, 7})
	if n, e := r.Num(); n != 7 || e != api.OK || r.End() != api.OK {
		t.Error(n, e)
	}
	if r := bin.New([]byte{0}); r.End() != api.ErrTail || r.Left() != 1 {
		t.Error("a byte that is left isn't told")
	}
}

// TestEndIsNoError: an end that is told sticks to nothing; the next fault is told as such.
func TestEndIsNoError(t *testing.T) {
	r := bin.New(nil)
	if r.End() != api.OK {
		t.Fatal("no end")
	}
	if _, e := r.Byte(); e != api.ErrShort || r.End() != api.ErrShort {
		t.Error(e)
	}
}

// P1.3

func TestStuck(t *testing.T) {
	for _, c := range []struct {
		b    string
		call func(*bin.Reader) api.Errno
		want api.Errno
		left int
	}{
		{"\x05", func(r *bin.Reader) api.Errno { r.Byte(); _, e := r.Byte(); return e }, api.ErrShort, 0},
		{"\x03\x01\x02", func(r *bin.Reader) api.Errno { _, e := r.Num(); return e }, api.ErrShort, 3},
		{"\x00\x02\x00\x07\x00", func(r *bin.Reader) api.Errno { r.Num(); _, e := r.Num(); return e }, api.ErrForm, 4},
		{"\x09\x00", func(r *bin.Reader) api.Errno { _, e := r.Raw(3); return e }, api.ErrForm, 2},
		{"\x01\x02ab\x00", func(r *bin.Reader) api.Errno { _, e := r.Raw(1); return e }, api.ErrLong, 5},
		{"\x01\x02a", func(r *bin.Reader) api.Errno { _, e := r.Raw(2); return e }, api.ErrShort, 3},
		{"\x01\x02", func(r *bin.Reader) api.Errno { return r.End() }, api.ErrTail, 2},
		{"\x07\x00\x01\x02", func(r *bin.Reader) api.Errno { r.Byte(); return r.End() }, api.ErrTail, 3},
	} {
		r := bin.New([]byte(c.b))
		if e := c.call(r); e != c.want || r.Left() != c.left {
			t.Errorf("%x: %d, left %d; want %d, left %d", c.b, e, r.Left(), c.want, c.left)
		}
		for range 2 {
			one, e1 := r.Byte()
			n, e2 := r.Num()
			text, e3 := r.Raw(math.MaxInt)
			if e4 := r.End(); e1 != c.want || e2 != c.want || e3 != c.want || e4 != c.want {
				t.Errorf("%x: behind %d come %d, %d, %d, %d", c.b, c.want, e1, e2, e3, e4)
			}
			if one != 0 || n != 0 || text != nil || r.Left() != c.left {
				t.Errorf("%x: beside errors come %d, %d, %q, left %d", c.b, one, n, text, r.Left())
			}
		}
	}
}

func TestReadersAreApart(t *testing.T) {
	b := []byte{1, 0}
	stuck, other := bin.New(b), bin.New(b)
	if _, e := stuck.Num(); e != api.ErrForm {
		t.Error(e)
	}
	if c, e := other.Byte(); c != 1 || e != api.OK || other.Left() != 1 || stuck.Left() != 2 {
		t.Error(c, e)
	}
}

// P1.4

func TestLaidIsRead(t *testing.T) {
	var laid []byte
	nums := edges()
	for i, n := range nums {
		laid = append(laid, bin.Num(n)...)
		laid = append(laid, bin.Raw(many(i*23))...)
	}
	r := bin.New(laid)
	for i, want := range nums {
		if n, e := r.Num(); n != want || e != api.OK {
			t.Fatalf("number %d: %d, %d", want, n, e)
		}
		if b, e := r.Raw(i * 23); !bytes.Equal(b, many(i*23)) || e != api.OK {
			t.Fatalf("text %d: %d bytes, %d", i, len(b), e)
		}
	}
	if r.End() != api.OK {
		t.Error("bytes are left:", r.Left())
	}
}

func TestGreatTextIsRead(t *testing.T) {
	want := many(1 << 20)
	r := bin.New(bin.Raw(want))
	if b, e := r.Raw(1 << 20); !bytes.Equal(b, want) || e != api.OK || r.End() != api.OK {
		t.Error(len(b), e)
	}
}

func TestOrderOfNumbers(t *testing.T) {
	nums := edges()
	for _, a := range nums {
		for _, b := range nums {
			want := 0
			if a < b {
				want = -1
			} else if a > b {
				want = 1
			}
			if got := bytes.Compare(bin.Num(a), bin.Num(b)); got != want {
				t.Errorf("%d, %d: %d", a, b, got)
			}
		}
	}
}

// P1.5

func TestNilReader(t *testing.T) {
	var r *bin.Reader
	if c, e := r.Byte(); c != 0 || e != api.ErrShort {
		t.Error(c, e)
	}
	if n, e := r.Num(); n != 0 || e != api.ErrShort {
		t.Error(n, e)
	}
	if text, e := r.Raw(5); text != nil || e != api.ErrShort {
		t.Error(text, e)
	}
	if r.End() != api.OK || r.Left() != 0 {
		t.Error(r.End(), r.Left())
	}
}

// All short texts, held against a second way of saying what a number is: the number whose bytes they begin with.

func TestAllShortTexts(t *testing.T) {
	letters := []byte{0, 1, 2, 3, 8, 9, 255}
	texts := [][]byte{{}}
	for from := 0; from < len(texts) && len(texts[from]) < 4; from++ {
		for _, c := range letters {
			texts = append(texts, append(bytes.Clone(texts[from]), c))
		}
	}
	for _, b := range texts {
		checkNum(t, b)
		for most := -1; most <= 4; most++ {
			checkRaw(t, b, most)
		}
	}
}

// checkNum: a number that is read is what Num lays; an error is one only where no number's bytes stand there.
func checkNum(t *testing.T, b []byte) {
	r := bin.New(b)
	n, e := r.Num()
	used := b[:len(b)-r.Left()]
	switch {
	case e == api.OK:
		if !bytes.Equal(bin.Num(n), used) {
			t.Errorf("%x: %d", b, n)
		}
	case n != 0 || len(used) != 0:
		t.Errorf("%x: %d, and %d bytes used, beside %d", b, n, len(used), e)
	case e == api.ErrShort:
		// Some bytes behind make it a number, so nothing that is there is at fault.
		more := append(bytes.Clone(b), 8, 1, 1, 1, 1, 1, 1, 1, 1)
		if _, e := bin.New(more).Num(); e != api.OK {
			t.Errorf("%x: ends too early, but goes on to %d", b, e)
		}
	case e == api.ErrForm:
		// It is at fault whatever comes behind.
		more := append(bytes.Clone(b), 1, 1, 1, 1, 1, 1, 1, 1)
		if _, e := bin.New(more).Num(); e != api.ErrForm {
			t.Errorf("%x: of no form, but goes on to %d", b, e)
		}
	default:
		t.Errorf("%x: %d", b, e)
	}
}

// checkRaw: a text that is read is what Raw lays; errors are those of its number, and then of its length.
func checkRaw(t *testing.T, b []byte, most int) {
	r := bin.New(b)
	text, e := r.Raw(most)
	used := b[:len(b)-r.Left()]
	number := bin.New(b)
	n, want := number.Num()
	if want == api.OK && n > uint64(max(most, 0)) {
		want = api.ErrLong
	} else if want == api.OK && n > uint64(number.Left()) {
		want = api.ErrShort
	}
	if e != want {
		t.Errorf("%x, %d: %d, want %d", b, most, e, want)
	} else if e == api.OK && !bytes.Equal(bin.Raw(text), used) {
		t.Errorf("%x, %d: %q, %d bytes used", b, most, text, len(used))
	} else if e != api.OK && (text != nil || len(used) != 0) {
		t.Errorf("%x, %d: %q, and %d bytes used, beside %d", b, most, text, len(used), e)
	}
}
