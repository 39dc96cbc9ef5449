package frame_test

import (
	"bytes"
	"encoding/binary"
	"hash/crc32"
	"math/rand"
	"testing"

	"tabellion/api"
	"tabellion/bin"
	"tabellion/frame"
)

// sum answers the bytes of a text's sum, by the test library.
func sum(text string) string {
	of := crc32.Checksum([]byte(text), crc32.MakeTable(crc32.Castagnoli))
	return string(binary.BigEndian.AppendUint32(nil, of))
}

// sealed answers a text with its sum behind it.
func sealed(text string) string {
	return text + sum(text)
}

// head answers the bytes of a length, written out by hand.
func head(n int) string {
	switch {
	case n == 0:
		return "\x00"
	case n < 1<<8:
		return string([]byte{1, byte(n)})
	case n < 1<<16:
		return string([]byte{2, byte(n >> 8), byte(n)})
	}
	return string([]byte{3, byte(n >> 16), byte(n >> 8), byte(n)})
}

// framed answers a record's frame.
func framed(rec []byte) string {
	return sealed(head(len(rec)) + string(rec))
}

// chance answers n bytes of a source that is the same in each run.
func chance(source *rand.Rand, n int) []byte {
	b := make([]byte, n)
	for i := range b {
		b[i] = byte(source.Intn(256))
	}
	return b
}

// edges answers records of all widths of length, up to the longest.
func edges() [][]byte {
	source := rand.New(rand.NewSource(1))
	list := [][]byte{nil, {}, {0}, {0, 0, 0, 0, 0}, []byte("a"), {1, 1}, {9}, {255}}
	for _, n := range []int{2, 3, 4, 5, 127, 254, 255, 256, 257, 4095, api.MaxRecord - 1, api.MaxRecord} {
		list = append(list, chance(source, n))
	}
	return list
}

// lay answers all frames of a list that may be laid.
func lay(t *testing.T, list [][]byte) []byte {
	t.Helper()
	b, e := frame.Lay(list)
	if e != api.OK {
		t.Fatalf("Lay of %d records: %d", len(list), e)
	}
	return b
}

// alike tells whether two lists have the same records.
func alike(a, b [][]byte) bool {
	if len(a) != len(b) {
		return false
	}
	for i := range a {
		if !bytes.Equal(a[i], b[i]) {
			return false
		}
	}
	return true
}

// scribble writes over all of a list's memory, its spare room too.
func scribble(b []byte) {
	full := b[:cap(b)]
	for i := range full {
		full[i] = '!'
	}
}

// P7.1

func TestLayBytes(t *testing.T) {
	for _, c := range []struct {
		list [][]byte
		want string
	}{
		{nil, ""},
		{[][]byte{}, ""},
		{[][]byte{nil}, sealed("\x00")},
		{[][]byte{{}}, sealed("\x00")},
		{[][]byte{[]byte("a")}, sealed("\x01\x01a")},
		{[][]byte{[]byte("ab"), []byte("ab")}, sealed("\x01\x02ab") + sealed("\x01\x02ab")},
		{[][]byte{[]byte("b"), {}, []byte("a")}, sealed("\x01\x01b") + sealed("\x00") + sealed("\x01\x01a")},
		{[][]byte{make([]byte, 256)}, sealed("\x02\x01\x00" + string(make([]byte, 256)))},
		{[][]byte{make([]byte, 1<<15)}, sealed("\x02\x80\x00" + string(make([]byte, 1<<15)))},
	} {
		if b, e := frame.Lay(c.list); string(b) != c.want || e != api.OK {
			t.Errorf("Lay of %d records: %.40x, %d; want %.40x", len(c.list), b, e, c.want)
		}
	}
}

// The sum is written out here, so that its bytes' order doesn't hang on how these tests lay it.
func TestSumStandsHighestFirst(t *testing.T) {
	if b := lay(t, [][]byte{{}}); string(b) != "\x00\x52\x7d\x53\x51" {
		t.Errorf("Lay of an empty record: %x", b)
	}
}

func TestLayOfEdges(t *testing.T) {
	want := ""
	for _, rec := range edges() {
		if b := lay(t, [][]byte{rec}); string(b) != framed(rec) {
			t.Errorf("Lay of a record of %d bytes: %d bytes, %.20x", len(rec), len(b), b)
		}
		want += framed(rec)
	}
	if b := lay(t, edges()); string(b) != want {
		t.Errorf("Lay of all edges: %d bytes, want %d", len(b), len(want))
	}
}

func TestLayTooLong(t *testing.T) {
	long, most := make([]byte, api.MaxRecord+1), make([]byte, api.MaxRecord)
	for _, list := range [][][]byte{
		{long},
		{long, nil},
		{nil, long},
		{most, []byte("a"), long},
		{most, long, most},
		{make([]byte, 1<<16)},
		{make([]byte, 1<<20)},
	} {
		if b, e := frame.Lay(list); b != nil || e != api.ErrLong {
			t.Errorf("Lay of %d records, one too long: %d bytes, %d", len(list), len(b), e)
		}
	}
	// It is each record that is held against the limit, not all of them.
	if b, e := frame.Lay([][]byte{most, most, most}); len(b) != 3*(3+api.MaxRecord+4) || e != api.OK {
		t.Errorf("Lay of three of the longest: %d bytes, %d", len(b), e)
	}
}

func TestLayIsNewMemory(t *testing.T) {
	whole := []byte("abcdefghijklmnop")
	list := make([][]byte, 2, 4)
	list[0], list[1] = whole[:2], whole[4:5]
	list[:4][2] = whole[8:]
	scribble(lay(t, list))
	if string(whole) != "abcdefghijklmnop" || len(list[0]) != 2 || len(list[1]) != 1 || string(list[:4][2]) != "ijklmnop" {
		t.Errorf("what was handed in became %q", whole)
	}
	b := lay(t, list)
	whole[0] = 'z'
	if string(b) != sealed("\x01\x02ab")+sealed("\x01\x01e") {
		t.Errorf("the answer became %x", b)
	}
}

// P7.2

func TestOne(t *testing.T) {
	zeros := string(make([]byte, api.MaxRecord+100))
	for _, c := range []struct {
		name, b string
		rec     string
		n       int
		want    api.Errno
	}{
		{"nothing", "", "", 0, api.ErrShort},
		{"an empty record", sealed("\x00"), "", 5, api.OK},
		{"a record", sealed("\x01\x02ab"), "ab", 8, api.OK},
		{"a record, and bytes behind", sealed("\x01\x02ab") + "\x09\xff", "ab", 8, api.OK},
		{"a record, and another one", sealed("\x01\x02ab") + sealed("\x01\x01c"), "ab", 8, api.OK},
		{"a record, and half another one", sealed("\x01\x02ab") + "\x01", "ab", 8, api.OK},
		{"the longest", sealed("\x02\x80\x00" + zeros[:1<<15]), zeros[:1<<15], 3 + 1<<15 + 4, api.OK},

		{"a length of 9 bytes", "\x09", "", 0, api.ErrForm},
		{"a length of 255 bytes", "\xff" + zeros, "", 0, api.ErrForm},
		{"a length's 0 in front", "\x01\x00", "", 0, api.ErrForm},
		{"a length's 0 in front, and a true sum", sealed("\x01\x00"), "", 0, api.ErrForm},
		{"a length's 0 in front, with its record", sealed("\x02\x00\x02ab"), "", 0, api.ErrForm},
		{"no length behind its width", "\x01", "", 0, api.ErrShort},
		{"half a length", "\x02\x01", "", 0, api.ErrShort},
		{"half a length that would be too long", "\x08\xff\xff\xff\xff\xff\xff\xff", "", 0, api.ErrShort},

		{"one byte too long", sealed("\x02\x80\x01" + zeros[:1<<15+1]), "", 0, api.ErrLong},
		{"too long, told ahead of the end", "\x02\x80\x01", "", 0, api.ErrLong},
		{"too long by a byte more of length", "\x03\x01\x00\x00" + zeros, "", 0, api.ErrLong},
		{"the greatest length", "\x08\xff\xff\xff\xff\xff\xff\xff\xff", "", 0, api.ErrLong},
		{"the greatest length, and bytes", "\x08\xff\xff\xff\xff\xff\xff\xff\xff" + zeros, "", 0, api.ErrLong},
		{"a length of the highest bit", "\x08\x80\x00\x00\x00\x00\x00\x00\x00" + zeros, "", 0, api.ErrLong},
		{"a length that is 0 in its low half", "\x05\x01\x00\x00\x00\x00" + zeros, "", 0, api.ErrLong},

		{"no record", "\x01\x02", "", 0, api.ErrShort},
		{"half a record", "\x01\x02a", "", 0, api.ErrShort},
		{"half of the longest", "\x02\x80\x00" + zeros[:1<<15-1], "", 0, api.ErrShort},
		{"no sum", "\x01\x02ab", "", 0, api.ErrShort},
		{"no sum of an empty record", "\x00", "", 0, api.ErrShort},
		{"three bytes of a sum", sealed("\x01\x02ab")[:7], "", 0, api.ErrShort},
		{"three bytes of another sum", "\x01\x02abxyz", "", 0, api.ErrShort},
		{"no sum of the longest", "\x02\x80\x00" + zeros[:1<<15], "", 0, api.ErrShort},
		{"three bytes behind the longest", "\x02\x80\x00" + zeros[:1<<15+3], "", 0, api.ErrShort},

		{"another sum", "\x01\x02abwxyz", "", 0, api.ErrForm},
		{"no bytes but 0", "\x00\x00\x00\x00\x00", "", 0, api.ErrForm},
		{"another record's sum", "\x01\x02ab" + sum("\x01\x02ac"), "", 0, api.ErrForm},
		{"the sum of the record without its length", "\x01\x02ab" + sum("ab"), "", 0, api.ErrForm},
		{"a sum turned round", "\x00\x51\x53\x7d\x52", "", 0, api.ErrForm},
		{"another sum of the longest", "\x02\x80\x00" + zeros[:1<<15+4], "", 0, api.ErrForm},
	} {
		rec, n, e := frame.One([]byte(c.b))
		if string(rec) != c.rec || n != c.n || e != c.want {
			t.Errorf("%s: %.20q, %d, %d; want %.20q, %d, %d", c.name, rec, n, e, c.rec, c.n, c.want)
		}
		if e != api.OK && rec != nil {
			t.Errorf("%s: a record beside an error", c.name)
		}
	}
	if rec, n, e := frame.One(nil); rec != nil || n != 0 || e != api.ErrShort {
		t.Error(rec, n, e)
	}
}

// Any byte of a sum that is another one is told.
func TestOneOfTurnedSums(t *testing.T) {
	for _, rec := range []string{"", "a", "a record"} {
		whole := framed([]byte(rec))
		for i := len(whole) - 4; i < len(whole); i++ {
			for turn := 1; turn < 256; turn++ {
				b := []byte(whole)
				b[i] ^= byte(turn)
				if got, n, e := frame.One(b); got != nil || n != 0 || e != api.ErrForm {
					t.Fatalf("%q, byte %d turned: %q, %d, %d", rec, i, got, n, e)
				}
			}
		}
	}
}

func TestOneTakesNoSpareRoom(t *testing.T) {
	whole := []byte(framed([]byte("ab")))
	for n := range len(whole) {
		if rec, _, e := frame.One(whole[:n]); rec != nil || e != api.ErrShort {
			t.Errorf("the first %d bytes: %q, %d", n, rec, e)
		}
	}
}

func TestOneIsNewMemory(t *testing.T) {
	was := framed([]byte("ab")) + framed([]byte("cd"))
	for _, text := range []string{was, framed(nil) + framed([]byte("cd"))} {
		b := []byte(text)
		rec, _, e := frame.One(b)
		if e != api.OK {
			t.Fatal(e)
		}
		scribble(rec)
		if string(b) != text {
			t.Errorf("what was handed in became %x", b)
		}
	}
	b := []byte(was)
	rec, _, _ := frame.One(b)
	scribble(b)
	if string(rec) != "ab" {
		t.Errorf("the answer became %q", rec)
	}
}

// oneByReader is One by the words: bin's Raw, and four bytes behind it.
func oneByReader(b []byte) ([]byte, int, api.Errno) {
	r := bin.New(b)
	rec, e := r.Raw(api.MaxRecord)
	if e != api.OK {
		return nil, 0, e
	}
	at := len(b) - r.Left()
	if r.Left() < 4 {
		return nil, 0, api.ErrShort
	}
	if string(b[at:at+4]) != sum(string(b[:at])) {
		return nil, 0, api.ErrForm
	}
	return rec, at + 4, api.OK
}

// checkOne holds One against the words.
func checkOne(t *testing.T, b []byte) {
	t.Helper()
	want, wantN, wantE := oneByReader(b)
	if rec, n, e := frame.One(b); !bytes.Equal(rec, want) || n != wantN || e != wantE {
		t.Fatalf("One(%.40x), %d bytes: %.20x, %d, %d; want %.20x, %d, %d", b, len(b), rec, n, e, want, wantN, wantE)
	}
}

func TestOneIsTheOneOfTheWords(t *testing.T) {
	letters := []byte{0, 1, 2, 3, 8, 9, 255}
	texts := [][]byte{{}}
	for from := 0; from < len(texts) && len(texts[from]) < 4; from++ {
		for _, c := range letters {
			texts = append(texts, append(bytes.Clone(texts[from]), c))
		}
	}
	for _, b := range texts {
		checkOne(t, b)
		checkOne(t, []byte(sealed(string(b))))
		checkOne(t, append(bytes.Clone(b), make([]byte, 40)...))
	}
	source := rand.New(rand.NewSource(2))
	for range 20000 {
		b := []byte(framed(chance(source, source.Intn(600))))
		if source.Intn(2) == 0 {
			b[source.Intn(len(b))] = byte(source.Intn(256))
		}
		if source.Intn(2) == 0 {
			b = b[:source.Intn(len(b)+1)]
		}
		checkOne(t, append(b, chance(source, source.Intn(12))...))
	}
}

// P7.3

func TestScan(t *testing.T) {
	a, none, long := framed([]byte("a")), framed(nil), framed(make([]byte, api.MaxRecord))
	tooLong := sealed("\x02\x80\x01" + string(make([]byte, api.MaxRecord+1)))
	for _, c := range []struct {
		name, b string
		list    []string
		n       int
	}{
		{"nothing", "", nil, 0},
		{"one", a, []string{"a"}, len(a)},
		{"an empty one", none, []string{""}, 5},
		{"several", a + none + a, []string{"a", "", "a"}, len(a) + 5 + len(a)},
		{"the longest, and one more", long + a, []string{string(make([]byte, api.MaxRecord)), "a"}, len(long) + len(a)},
		{"none", "\x09", nil, 0},
		{"a byte behind", a + "\x00", []string{"a"}, len(a)},
		{"what says nothing, and one behind", a + "\x09" + a, []string{"a"}, len(a)},
		{"what says nothing ahead", "\x09" + a, nil, 0},
		{"another sum between", a + "\x01\x01awxyz" + a, []string{"a"}, len(a)},
		{"half a one between", a + a[:4] + a, []string{"a"}, len(a)},
		{"one that is too long between", a + tooLong + a, []string{"a"}, len(a)},
	} {
		list, n := frame.Scan([]byte(c.b))
		ok := len(list) == len(c.list) && n == c.n
		for i := range c.list {
			ok = ok && string(list[i]) == c.list[i]
		}
		if !ok {
			t.Errorf("%s: %d records, %d bytes; want %d, %d", c.name, len(list), n, len(c.list), c.n)
		}
	}
	if list, n := frame.Scan(nil); len(list) != 0 || n != 0 {
		t.Error(list, n)
	}
}

// Scan is One again and again, whatever the bytes.
func TestScanIsOneAgainAndAgain(t *testing.T) {
	source := rand.New(rand.NewSource(3))
	for range 3000 {
		var b []byte
		for range source.Intn(5) {
			b = append(b, framed(chance(source, source.Intn(300)))...)
		}
		for range source.Intn(3) {
			if len(b) > 0 {
				b[source.Intn(len(b))] = byte(source.Intn(256))
			}
		}
		var want [][]byte
		at := 0
		for {
			rec, n, e := oneByReader(b[at:])
			if e != api.OK {
				break
			}
			want, at = append(want, rec), at+n
		}
		if list, n := frame.Scan(b); !alike(list, want) || n != at {
			t.Fatalf("Scan(%x): %d records, %d bytes; want %d, %d", b, len(list), n, len(want), at)
		}
	}
}

func TestScanIsNewMemory(t *testing.T) {
	was := lay(t, [][]byte{[]byte("ab"), {}, []byte("cde"), []byte("f")})
	whole := append(bytes.Clone(was), "spare room"...)
	first, _ := frame.Scan(whole[:len(was)])
	for i, rec := range first {
		scribble(rec)
		if second, _ := frame.Scan(was); i+1 < len(first) && !bytes.Equal(first[i+1], second[i+1]) {
			t.Errorf("what is written to record %d is seen in the next one: %q", i, first[i+1])
		}
	}
	if string(whole) != string(was)+"spare room" {
		t.Errorf("what was handed in became %x", whole)
	}
	list, _ := frame.Scan(whole[:len(was)])
	scribble(whole)
	if !alike(list, [][]byte{[]byte("ab"), {}, []byte("cde"), []byte("f")}) {
		t.Errorf("the answer became %q", list)
	}
}

// Many records take no more than their bytes' time: what stands behind a record isn't gone through for it.
func TestScanOfMany(t *testing.T) {
	const many = 1 << 18
	b := bytes.Repeat([]byte(framed(nil)), many)
	if list, n := frame.Scan(b); len(list) != many || n != len(b) {
		t.Errorf("Scan of %d empty records: %d, %d bytes", many, len(list), n)
	}
}

// P7.4

func TestLaidIsScanned(t *testing.T) {
	source := rand.New(rand.NewSource(4))
	lists := [][][]byte{nil, {{}}, {{}, {}, {}}, edges()}
	for range 200 {
		list := make([][]byte, source.Intn(20))
		for i := range list {
			list[i] = chance(source, source.Intn(400))
		}
		lists = append(lists, list)
	}
	for _, list := range lists {
		b := lay(t, list)
		if got, n := frame.Scan(b); !alike(got, list) || n != len(b) {
			t.Errorf("Scan of %d records laid: %d, %d of %d bytes", len(list), len(got), n, len(b))
		}
	}
}

// short answers a list of few bytes, and where the frames begin and end.
func short() ([][]byte, []int) {
	list := [][]byte{[]byte("one"), {}, []byte("three"), {0, 0, 0, 0}, bytes.Repeat([]byte{7}, 300), []byte("z")}
	ends := []int{0}
	for i, rec := range list {
		ends = append(ends, ends[i]+len(framed(rec)))
	}
	return list, ends
}

// ahead tells how many of the frames end at or ahead of a place.
func ahead(ends []int, place int) int {
	n := 0
	for n+1 < len(ends) && ends[n+1] <= place {
		n++
	}
	return n
}

func TestCutOff(t *testing.T) {
	list, ends := short()
	b := lay(t, list)
	for cut := range len(b) + 1 {
		k := ahead(ends, cut)
		// The second time nothing is there behind the cut, not even as spare room.
		for _, part := range [][]byte{b[:cut], bytes.Clone(b[:cut])} {
			if got, n := frame.Scan(part); !alike(got, list[:k]) || n != ends[k] {
				t.Fatalf("cut off at %d: %d records, %d bytes; want %d, %d", cut, len(got), n, k, ends[k])
			}
		}
	}
}

func TestCutOffAtTheLongest(t *testing.T) {
	list := [][]byte{[]byte("a"), chance(rand.New(rand.NewSource(5)), api.MaxRecord), []byte("b")}
	b := lay(t, list)
	behind := len(framed(list[0]))
	end := behind + len(framed(list[1]))
	for _, cut := range []int{behind, behind + 1, behind + 3, behind + 100, end - 5, end - 4, end - 1} {
		if got, n := frame.Scan(b[:cut]); !alike(got, list[:1]) || n != behind {
			t.Errorf("cut off at %d: %d records, %d bytes", cut, len(got), n)
		}
	}
	if got, n := frame.Scan(b[:end]); !alike(got, list[:2]) || n != end {
		t.Errorf("cut off at %d: %d records, %d bytes", end, len(got), n)
	}
}

func TestTurnedByte(t *testing.T) {
	list, ends := short()
	b := lay(t, list)
	for place := range b {
		k := ahead(ends, place)
		if place < ends[k]+len(head(len(list[k]))) {
			continue // of a length nothing is promised
		}
		for turn := 1; turn < 256; turn++ {
			turned := bytes.Clone(b)
			turned[place] ^= byte(turn)
			if got, n := frame.Scan(turned); !alike(got, list[:k]) || n != ends[k] {
				t.Fatalf("byte %d turned by %02x: %d records, %d bytes; want %d, %d", place, turn, len(got), n, k, ends[k])
			}
		}
	}
}

func TestTurnedByteOfTheLongest(t *testing.T) {
	list := [][]byte{[]byte("a"), chance(rand.New(rand.NewSource(6)), api.MaxRecord), []byte("b")}
	b := lay(t, list)
	behind := len(framed(list[0]))
	for place := behind + 3; place < behind+len(framed(list[1])); place += 331 {
		turned := bytes.Clone(b)
		turned[place] ^= 0x10
		if got, n := frame.Scan(turned); !alike(got, list[:1]) || n != behind {
			t.Errorf("byte %d turned: %d records, %d bytes", place, len(got), n)
		}
	}
}
