package vault_test

import (
	"bytes"
	"fmt"
	"math/rand"
	"slices"
	"strings"
	"testing"

	"tabellion/api"
	"tabellion/cell"
	"tabellion/disk"
	"tabellion/vault"
	"tabellion/wal"
)

const (
	roomy = 1 << 30
	whole = 1 << 30 // more bytes than any write of these tests has
	most  = 1 << 15 // bytes of a text
)

// held is what a vault has: a text, or none.
type held struct {
	text  string
	there bool
}

// a answers what a vault has that has a text.
func a(text string) held {
	return held{text, true}
}

// none is what a vault has at first.
var none held

// short answers what is held in few words.
func (h held) short() string {
	switch {
	case !h.there:
		return "none"
	case len(h.text) > 20:
		return fmt.Sprintf("%q and more, %d bytes", h.text[:20], len(h.text))
	}
	return fmt.Sprintf("%q", h.text)
}

// want fails the test where an answer isn't the one that is asked for.
func want(t *testing.T, what string, got, asked api.Errno) {
	t.Helper()
	if got != asked {
		t.Errorf("%s: %d, not %d", what, got, asked)
	}
}

// done stops the test where an answer isn't OK.
func done(t *testing.T, e api.Errno) {
	t.Helper()
	if e != api.OK {
		t.Fatalf("answered %d", e)
	}
}

// in answers what a vault has.
func in(t *testing.T, v *vault.Vault) held {
	t.Helper()
	b, there := v.Get()
	if !there && len(b) > 0 {
		t.Errorf("Get: %d bytes, and false", len(b))
	}
	return held{string(b), there}
}

// holds fails the test where a vault has something else.
func holds(t *testing.T, v *vault.Vault, asked held) {
	t.Helper()
	if got := in(t, v); got != asked {
		t.Errorf("Get: %s, not %s", got.short(), asked.short())
	}
}

// put a text into a vault.
func put(v *vault.Vault, text string) api.Errno {
	return v.Put([]byte(text))
}

// opened answers the vault of a disk.
func opened(t *testing.T, d *disk.Disk) *vault.Vault {
	t.Helper()
	v, e := vault.Open(d, "snap")
	if e != api.OK || v == nil {
		t.Fatalf("Open: %v, %d", v, e)
	}
	return v
}

// crashed answers the vault of a disk that has crashed and kept nothing of what waited.
func crashed(t *testing.T, d *disk.Disk) *vault.Vault {
	t.Helper()
	d.Crash(nil, 0)
	return opened(t, d)
}

// begun answers a vault on a disk of its own, with what it has.
func begun(t *testing.T, h held) (*vault.Vault, *disk.Disk) {
	t.Helper()
	d := disk.New(roomy)
	v := opened(t, d)
	if h.there {
		done(t, put(v, h.text))
	}
	return v, d
}

// fell takes a disk down.
func fell(t *testing.T, d *disk.Disk) {
	t.Helper()
	d.Fuse(0)
	want(t, "the disk's Sync", d.Sync(), api.ErrLost)
}

// P11.1: Open

func TestAVaultWithoutAText(t *testing.T) {
	d := disk.New(roomy)
	holds(t, opened(t, d), none)
	holds(t, opened(t, d), none)
	holds(t, crashed(t, d), none)
	holds(t, opened(t, disk.New(0)), none)
}

func TestVaultNames(t *testing.T) {
	for _, name := range []string{"a", "z", "az", "snap", "zzzz", "abcd"} {
		d := disk.New(roomy)
		v, e := vault.Open(d, name)
		if v == nil || e != api.OK {
			t.Fatalf("%q: %d", name, e)
		}
		done(t, put(v, "one"))
		d.Crash(nil, 0)
		v, e = vault.Open(d, name)
		want(t, name, e, api.OK)
		holds(t, v, a("one"))
	}
	down := disk.New(roomy)
	fell(t, down)
	wrong := []string{"", "abcde", "A", "aB", "a1", "0", ".", "a.", ".a", "a.b", " ", "a ", "`", "{", "@", "a-b", "\x00", "\xff", "é", "a\n", strings.Repeat("a", 1000)}
	for _, name := range wrong {
		for _, d := range []*disk.Disk{disk.New(roomy), disk.New(0), down, nil} {
			v, e := vault.Open(d, name)
			if v != nil || e != api.ErrArg {
				t.Errorf("%q: %v, %d", name, v, e)
			}
			if d.Waiting() > 0 || len(d.List()) > 0 {
				t.Errorf("%q: something was done", name)
			}
		}
	}
}

func TestNoByteOfAVaultsNameButTheNamed(t *testing.T) {
	for c := range 256 {
		for _, name := range []string{string([]byte{byte(c)}), string([]byte{'a', byte(c)}), string([]byte{byte(c), 'a', 'a', 'a'})} {
			asked := api.ErrArg
			if 'a' <= c && c <= 'z' {
				asked = api.OK
			}
			_, e := vault.Open(disk.New(roomy), name)
			want(t, fmt.Sprintf("%q", name), e, asked)
		}
	}
}

func TestOpenOfADiskThatIsDown(t *testing.T) {
	v, e := vault.Open(nil, "snap")
	if v != nil || e != api.ErrLost {
		t.Errorf("nil: %v, %d", v, e)
	}
	_, used := begun(t, a("one"))
	for _, d := range []*disk.Disk{disk.New(0), disk.New(roomy), used} {
		fell(t, d)
		v, e = vault.Open(d, "snap")
		if v != nil || e != api.ErrLost {
			t.Errorf("down: %v, %d", v, e)
		}
	}
	holds(t, crashed(t, used), a("one"))
}

func TestOpenThatIsCut(t *testing.T) {
	for lost := range 6 { // what the Put was lost at, which left something for Open to do
		for fuse := 0; ; fuse++ {
			v, d := begun(t, a("one"))
			d.Fuse(lost)
			put(v, "three")
			d.Crash(slices.Repeat([]bool{true}, d.Waiting()), whole)
			has := in(t, opened(t, copied(t, d)))
			d.Fuse(fuse)
			v, e := vault.Open(d, "snap")
			if e == api.OK {
				holds(t, v, has)
				break
			}
			if v != nil || e != api.ErrLost || !d.Down() || fuse > 100 {
				t.Fatalf("fuse %d: %v, %d", fuse, v, e)
			}
			holds(t, crashed(t, d), has)
		}
	}
}

func TestOpenFindsWhatLiesThere(t *testing.T) {
	v, d := begun(t, a("one"))
	for range 3 {
		holds(t, opened(t, d), a("one"))
	}
	done(t, put(v, "two"))
	v = opened(t, d)
	holds(t, v, a("two"))
	done(t, put(v, "three"))
	holds(t, opened(t, d), a("three"))
	holds(t, crashed(t, d), a("three"))
}

func TestOpenNeedsNoRoom(t *testing.T) {
	_, d := begun(t, a("one"))
	d.Room(0)
	holds(t, opened(t, d), a("one"))
	holds(t, crashed(t, d), a("one"))
}

func TestVaultsOfOneDiskAreApart(t *testing.T) {
	d := disk.New(roomy)
	asked := map[string]held{"z": none}
	for _, name := range []string{"a", "b", "ab", "aa", "aaaa"} {
		v, e := vault.Open(d, name)
		done(t, e)
		done(t, put(v, "the text of "+name))
		asked[name] = a("the text of " + name)
	}
	v, e := vault.Open(d, "aa")
	done(t, e)
	done(t, put(v, "another"))
	asked["aa"] = a("another")
	for range 2 {
		for name, h := range asked {
			v, e := vault.Open(d, name)
			want(t, name, e, api.OK)
			holds(t, v, h)
		}
		d.Crash(nil, 0)
	}
}

func TestVaultsOfTwoDisksAreApart(t *testing.T) {
	one, d := begun(t, a("one"))
	other, _ := begun(t, a("two"))
	fell(t, d)
	want(t, "Put", put(one, "three"), api.ErrLost)
	want(t, "Put", put(other, "four"), api.OK)
	holds(t, one, a("one"))
	holds(t, other, a("four"))
}

func TestAVaultBesideALogAndACell(t *testing.T) {
	d := disk.New(roomy)
	l, e := wal.Open(d, "log")
	done(t, e)
	c, e := cell.Open(d, "vote")
	done(t, e)
	v := opened(t, d)
	for i := range uint64(20) {
		text := strings.Repeat("x", int(i*i*i)%700)
		done(t, l.Append([]byte{byte(i)}))
		done(t, put(v, text))
		done(t, c.Set(api.Hard{Term: i, Vote: 7}))
		d.Crash(nil, 0)
		l, e = wal.Open(d, "log")
		done(t, e)
		c, e = cell.Open(d, "vote")
		done(t, e)
		v = opened(t, d)
		holds(t, v, a(text))
		if l.Next() != i+1 || c.Get() != (api.Hard{Term: i, Vote: 7}) {
			t.Fatalf("%d: %d records, %v", i, l.Next(), c.Get())
		}
	}
}

// lay puts each of the others' files onto a disk, for sure.
func lay(t *testing.T, d *disk.Disk, files map[string]string) {
	t.Helper()
	for name, text := range files {
		done(t, d.Write(name, 0, []byte(text)))
	}
	done(t, d.Sync())
}

// copied answers a disk with the same files, all sure.
func copied(t *testing.T, d *disk.Disk) *disk.Disk {
	t.Helper()
	files := make(map[string]string)
	for _, name := range d.List() {
		b, _ := d.Read(name)
		files[name] = string(b)
	}
	same := disk.New(roomy)
	lay(t, same, files)
	return same
}

func TestOtherFilesAreLeftAsTheyAre(t *testing.T) {
	others := map[string]string{
		"snap": "a", "sna": "b", "sna.0": "c", "snaps.0": "d", "xsnap.0": "e", ".snap": "f", "0": "g", ".": "h", "snap0": "i", "s.nap.": "j", "snapx": "", "nap.k": "k", "new": "l", "now": "m",
		"sna.now": "n", "sna.new": "o", "snaps.now": "p", "snaps.new": "q", ".snap.now": "r", ".snap.new": "s",
	}
	d := disk.New(roomy)
	lay(t, d, others)
	v := opened(t, d)
	holds(t, v, none)
	for i := range 4 {
		done(t, put(v, strings.Repeat("x", i)))
	}
	for fuse := range 6 {
		d.Fuse(fuse)
		put(v, "lost")
		d.Crash(slices.Repeat([]bool{true}, d.Waiting()), 1)
		v = opened(t, d)
	}
	done(t, put(v, "last"))
	for name, text := range others {
		b, e := d.Read(name)
		if string(b) != text || e != api.OK {
			t.Errorf("%q: %q, %d", name, b, e)
		}
	}
	for _, name := range d.List() {
		if _, other := others[name]; !other && !strings.HasPrefix(name, "snap.") {
			t.Errorf("%q was made", name)
		}
	}
}

// tryAll calls all that a vault has; it is asked only that each call ends.
func tryAll(d *disk.Disk) {
	for range 3 {
		v, e := vault.Open(d, "snap")
		if e != api.OK {
			return
		}
		v.Get()
		v.Put(nil)
		v.Put([]byte("a text"))
		v.Get()
	}
}

func TestOpenEndsWhateverOthersWrote(t *testing.T) {
	_, model := begun(t, a("a text of some bytes"))
	for _, name := range model.List() {
		text, _ := model.Read(name)
		for i := range text {
			for _, turn := range []byte{1, 4, 128, 255} {
				d := copied(t, model)
				done(t, d.Write(name, i, []byte{text[i] ^ turn}))
				tryAll(d)
			}
			d := copied(t, model)
			done(t, d.Cut(name, i))
			tryAll(d)
		}
		d := copied(t, model)
		done(t, d.Remove(name))
		tryAll(d)
		for _, other := range append(model.List(), "snap.", "snap.0", "snap.1", "snap.now", "snap.new", "snap.zzzzzzzzzzz") {
			d := copied(t, model)
			done(t, d.Rename(name, other))
			tryAll(d)
			d = copied(t, model)
			done(t, d.Write(other, 0, append([]byte("\x09\x00"), text...)))
			tryAll(d)
			done(t, d.Write(other, 1<<20, []byte("far")))
			tryAll(d)
		}
	}
}

// P11.2: Get, Put

// texts of many kinds.
func texts() []string {
	list := []string{"", "a", "\x00", "\xff", "one", "two", "\x00\x00\x00", "a\nb", "é", "snap.now", "\x01\x01a"}
	var each []byte
	for c := range 256 {
		each = append(each, byte(c))
	}
	list = append(list, string(each))
	for _, n := range []int{63, 64, 127, 128, 255, 256, 4095, 4096, api.MaxImage - 1, api.MaxImage, api.MaxImage + 1, most - 1, most} {
		list = append(list, strings.Repeat("\x00", n), strings.Repeat("xyz", n)[:n])
	}
	return list
}

func TestPut(t *testing.T) {
	d := disk.New(roomy)
	v := opened(t, d)
	for _, first := range texts() {
		for _, text := range []string{first, "between", first, ""} {
			want(t, "Put", put(v, text), api.OK)
			holds(t, v, a(text))
			holds(t, opened(t, d), a(text))
			v = crashed(t, d)
			holds(t, v, a(text))
		}
	}
}

func TestAnEmptyTextIsAText(t *testing.T) {
	for _, empty := range [][]byte{nil, {}, make([]byte, 0, 9)} {
		d := disk.New(0)
		v := opened(t, d)
		holds(t, v, none)
		want(t, "Put", v.Put(empty), api.OK)
		holds(t, v, a(""))
		holds(t, opened(t, d), a(""))
		holds(t, crashed(t, d), a(""))
		v, d = begun(t, a("one"))
		want(t, "Put", v.Put(empty), api.OK)
		holds(t, v, a(""))
		holds(t, crashed(t, d), a(""))
	}
}

func TestATextThatIsTooLong(t *testing.T) {
	for _, has := range []held{none, a(""), a("one")} {
		v, d := begun(t, has)
		for _, n := range []int{most + 1, most + 2, 2 * most, 1 << 20} {
			want(t, "Put", v.Put(make([]byte, n)), api.ErrLong)
			holds(t, v, has)
			if d.Waiting() > 0 {
				t.Error("an operation was done")
			}
		}
		d.Room(0)
		want(t, "Put", v.Put(make([]byte, most+1)), api.ErrLong) // named ahead of ErrFull
		d.Room(roomy)
		d.Fuse(0)
		want(t, "Put", v.Put(make([]byte, most+1)), api.ErrLong) // and of an operation that is lost
		if d.Down() {
			t.Error("an operation was done")
		}
		d.Fuse(-1)
		want(t, "Put", v.Put(make([]byte, most)), api.OK)
		holds(t, v, a(strings.Repeat("\x00", most)))
		holds(t, crashed(t, d), a(strings.Repeat("\x00", most)))
	}
}

func TestATextThatIsTooLongOfADiskThatIsDown(t *testing.T) {
	v, d := begun(t, a("one"))
	fell(t, d)
	want(t, "Put", v.Put(make([]byte, most+1)), api.ErrLong)
	want(t, "Put", put(v, "two"), api.ErrLost)
	want(t, "Put", v.Put(make([]byte, most+1)), api.ErrLost) // it is over
	holds(t, crashed(t, d), a("one"))
}

func TestPutIsSureWhateverIsKept(t *testing.T) {
	v, d := begun(t, a("one"))
	source := rand.New(rand.NewSource(5))
	for _, text := range []string{"two", "", "three", "three", strings.Repeat("x", most), "four", "", ""} {
		want(t, "Put", put(v, text), api.OK)
		d.Crash(someOf(source, d.Waiting()), 1)
		v = opened(t, d)
		holds(t, v, a(text))
	}
}

func TestAVaultOutlivesACrashOfItsDisk(t *testing.T) {
	for lost := range 6 {
		v, d := begun(t, a("one"))
		d.Fuse(lost)
		put(v, "a long text that is lost")
		d.Crash(slices.Repeat([]bool{true}, d.Waiting()), whole)
		v = opened(t, d)
		has := in(t, v)
		d.Crash(nil, 0) // what Open did isn't kept
		holds(t, v, has)
		want(t, "Put", put(v, "two"), api.OK)
		holds(t, v, a("two"))
		holds(t, opened(t, d), a("two"))
		holds(t, crashed(t, d), a("two"))
	}
}

func TestPutAgainAndAgainNeedsNoMoreRoom(t *testing.T) {
	d := disk.New(20) // ten bytes, and ten beside them
	v := opened(t, d)
	for i := range 3000 {
		text := fmt.Sprintf("%0*d", i%11, i)[:i%11]
		done(t, put(v, text))
		switch i % 50 {
		case 20:
			v = crashed(t, d)
		case 40:
			d.Fuse(i / 50 % 7)
			e := put(v, "0123456789")
			d.Crash(slices.Repeat([]bool{true}, d.Waiting()), whole)
			v = opened(t, d)
			if in(t, v) == a("0123456789") || e == api.OK {
				text = "0123456789"
			}
		}
		holds(t, v, a(text))
	}
	if n := len(d.List()); n > 20 {
		t.Errorf("%d files", n)
	}
}

func TestWhatWasLostTakesNoRoom(t *testing.T) {
	lost := strings.Repeat("x", most)
	for fuse := range 6 {
		v, d := begun(t, a("one"))
		d.Fuse(fuse)
		put(v, lost)
		d.Crash(slices.Repeat([]bool{true}, d.Waiting()), whole)
		v = opened(t, d)
		has := in(t, v)
		d.Room(len(has.text) + 5)
		want(t, "Put", put(v, "three"), api.OK)
		holds(t, v, a("three"))
		holds(t, crashed(t, d), a("three"))
	}
}

func TestPutWithoutRoom(t *testing.T) {
	d := disk.New(2)
	v := opened(t, d)
	for range 3 {
		want(t, "Put", put(v, "abc"), api.ErrFull)
		holds(t, v, none)
		holds(t, opened(t, d), none)
	}
	d.Crash(slices.Repeat([]bool{true}, d.Waiting()), whole)
	v = opened(t, d)
	holds(t, v, none)
	d.Room(roomy)
	want(t, "Put", put(v, "abc"), api.OK)
	holds(t, v, a("abc"))
	holds(t, crashed(t, d), a("abc"))
}

// files answers what lies on a disk, and how much of it waits.
func files(d *disk.Disk) string {
	list := []string{fmt.Sprint(d.Waiting(), d.Down())}
	for _, name := range d.List() {
		b, e := d.Read(name)
		list = append(list, fmt.Sprintf("%q %q %d", name, b, e))
	}
	return strings.Join(list, "\n")
}

func TestPutWithLittleRoom(t *testing.T) {
	for _, pair := range [][2]held{{none, a("x")}, {none, a("")}, {a("one"), a("three")}, {a("three"), a("one")}, {a("one"), a("")}, {a(""), a("one")}, {a("one"), a("one")}, {none, a(strings.Repeat("x", 200))}} {
		old, next := pair[0], pair[1]
		_, model := begun(t, old)
		for more := -3; more < 300; more++ {
			for _, keep := range [][]bool{nil, {true}, {false, true}, {true, true, true, true, true, true}} {
				v, d := begun(t, old)
				room := max(model.Used()+more, 0)
				d.Room(room)
				before := files(d)
				switch e := put(v, next.text); {
				case e == api.OK && room >= len(next.text):
					holds(t, v, next)
					holds(t, crashed(t, d), next)
				case e == api.ErrFull && room < model.Used()+len(next.text):
					if now := files(d); now != before {
						t.Errorf("%d bytes more: the disk was changed: %s", more, now)
					}
					holds(t, v, old)
					holds(t, opened(t, d), old)
					d.Crash(keep, whole)
					holds(t, opened(t, d), old)
				default:
					t.Fatalf("%s, %d bytes more: Put of %s: %d", old.short(), more, next.short(), e)
				}
			}
		}
	}
}

func TestAVaultGoesOnBehindNoRoom(t *testing.T) {
	v, d := begun(t, a("one"))
	has := "one"
	for i := range 20 {
		d.Room(0)
		want(t, "Put", put(v, "more"), api.ErrFull)
		holds(t, v, a(has))
		d.Room(roomy)
		if i%2 == 0 {
			has = strings.Repeat("x", 1+i%5*i)
			want(t, "Put", put(v, has), api.OK)
		}
		holds(t, v, a(has))
		holds(t, opened(t, d), a(has))
	}
	holds(t, crashed(t, d), a(has))
}

func TestNoRoomIsSaidAheadOfALostOperation(t *testing.T) {
	for _, has := range []held{none, a("one")} {
		v, d := begun(t, has)
		d.Room(3)
		d.Fuse(0)
		want(t, "Put", put(v, "three"), api.ErrFull)
		if d.Down() {
			t.Error("an operation was done")
		}
		holds(t, v, has)
		d.Fuse(-1)
		d.Room(roomy)
		want(t, "Put", put(v, "three"), api.OK)
		holds(t, crashed(t, d), a("three"))
	}
}

// P11.3: a vault that is over

// isOver fails the test where a vault takes something still.
func isOver(t *testing.T, v *vault.Vault, has held) {
	t.Helper()
	for _, b := range [][]byte{nil, []byte(has.text), []byte("more"), make([]byte, most), make([]byte, most+1)} {
		want(t, "Put", v.Put(b), api.ErrLost)
		holds(t, v, has)
	}
}

func TestAVaultIsOverBehindErrLost(t *testing.T) {
	for _, has := range []held{none, a(""), a("one")} {
		for fuse := 0; ; fuse++ {
			v, d := begun(t, has)
			d.Fuse(fuse)
			e := put(v, "two")
			if e == api.OK && fuse > 0 {
				holds(t, v, a("two"))
				break
			}
			if e != api.ErrLost || fuse > 100 {
				t.Fatalf("fuse %d: %d", fuse, e)
			}
			isOver(t, v, has)
			d.Crash(nil, 0)
			before := files(d)
			isOver(t, v, has)
			if now := files(d); now != before {
				t.Errorf("fuse %d: a vault that is over changed the disk: %s", fuse, now)
			}
			again := opened(t, d)
			done(t, put(again, "three"))
			isOver(t, v, has)
			d.Room(0)
			isOver(t, v, has) // ErrLost is named ahead of ErrFull
			holds(t, opened(t, d), a("three"))
			holds(t, crashed(t, d), a("three"))
		}
	}
}

func TestADiskThatIsDownEndsAVault(t *testing.T) {
	v, d := begun(t, a("one"))
	fell(t, d)
	holds(t, v, a("one"))
	want(t, "Put", put(v, "two"), api.ErrLost)
	isOver(t, v, a("one"))
	d.Crash(slices.Repeat([]bool{true}, d.Waiting()), whole)
	isOver(t, v, a("one"))
	holds(t, opened(t, d), a("one"))
}

// P11.5: a nil vault

func TestNilVault(t *testing.T) {
	var v *vault.Vault
	for range 2 {
		holds(t, v, none)
		isOver(t, v, none)
	}
}

// What is handed in, and what is answered

func TestWhatIsHandedInIsNotChangedAndNotKept(t *testing.T) {
	v, d := begun(t, none)
	for _, text := range []string{"one", "", strings.Repeat("x", most)} {
		room := append([]byte(text), "spare"...)
		b := room[:len(text)]
		done(t, v.Put(b))
		if string(room) != text+"spare" {
			t.Error("Put changed what was handed in")
		}
		for i := range room {
			room[i] = '!'
		}
		holds(t, v, a(text))
		holds(t, opened(t, d), a(text))
		holds(t, crashed(t, d), a(text))
	}
}

func TestAnAnswerIsNewMemory(t *testing.T) {
	one, d := begun(t, a("one"))
	for _, v := range []*vault.Vault{one, opened(t, d)} {
		first, _ := v.Get()
		second, _ := v.Get()
		first = first[:cap(first)]
		for i := range first {
			first[i] = '!'
		}
		if !bytes.Equal(second, []byte("one")) {
			t.Errorf("two answers share memory: %q", second)
		}
		holds(t, v, a("one"))
		holds(t, opened(t, d), a("one"))
		_ = append(second, "more"...)
		holds(t, v, a("one"))
	}
	holds(t, crashed(t, d), a("one"))
}
