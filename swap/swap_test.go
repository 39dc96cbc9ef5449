package swap_test

import (
	"slices"
	"testing"

	"tabellion/api"
	"tabellion/disk"
	"tabellion/swap"
)

const roomy = 1 << 30

// opened answers the file of a disk.
func opened(t *testing.T, d *disk.Disk) *swap.File {
	t.Helper()
	f, e := swap.Open(d, "text")
	if f == nil || e != api.OK {
		t.Fatalf("Open: %v, %d", f, e)
	}
	return f
}

// put a text, which is answered as asked.
func put(t *testing.T, f *swap.File, text string, asked api.Errno) {
	t.Helper()
	if e := f.Put([]byte(text)); e != asked {
		t.Fatalf("Put of %q: %d, not %d", text, e, asked)
	}
}

// holds fails the test where a file has another text.
func holds(t *testing.T, f *swap.File, text string) {
	t.Helper()
	if b, there := f.Get(); string(b) != text || !there {
		t.Errorf("Get: %q, %t, not %q", b, there, text)
	}
}

// left answers a disk on which a text lies, and beside it one that was lost.
func left(t *testing.T, text, lost string) *disk.Disk {
	t.Helper()
	d := disk.New(roomy)
	f := opened(t, d)
	put(t, f, text, api.OK)
	d.Fuse(1)
	put(t, f, lost, api.ErrLost)
	d.Crash([]bool{true}, len(lost))
	if d.Used() != len(text)+len(lost) {
		t.Fatalf("%d bytes lie there", d.Used())
	}
	return d
}

func TestOpen(t *testing.T) {
	for _, name := range []string{"", "abcde", "A", "a."} {
		if f, e := swap.Open(nil, name); f != nil || e != api.ErrArg {
			t.Errorf("%q: %v, %d", name, f, e)
		}
	}
	if f, e := swap.Open(nil, "text"); f != nil || e != api.ErrLost {
		t.Errorf("nil: %v, %d", f, e)
	}
	if b, there := opened(t, disk.New(0)).Get(); len(b) > 0 || there {
		t.Errorf("%q, %t", b, there)
	}
}

func TestPut(t *testing.T) {
	d := disk.New(roomy)
	f := opened(t, d)
	for _, text := range []string{"one", "", "a longer one", "two"} {
		put(t, f, text, api.OK)
		holds(t, f, text)
		d.Crash(nil, 0)
		holds(t, opened(t, d), text)
		if list := d.List(); !slices.Equal(list, []string{"text.now"}) || d.Used() != len(text) {
			t.Errorf("%q lies in %v, %d bytes", text, list, d.Used())
		}
	}
}

func TestOpenTakesAwayWhatWasLost(t *testing.T) {
	d := left(t, "one", "a text that was lost")
	f := opened(t, d)
	holds(t, f, "one")
	if d.Used() != len("one") {
		t.Errorf("%d bytes lie there still", d.Used())
	}
	d.Crash(nil, 0)
	d.Fuse(0)
	if f, e := swap.Open(d, "text"); f != nil || e != api.ErrLost {
		t.Errorf("%v, %d", f, e)
	}
	d.Crash([]bool{true, true}, 0)
	holds(t, opened(t, d), "one")
}

func TestPutOverWhatACrashBroughtBack(t *testing.T) {
	d := left(t, "one", "a text that was lost")
	f := opened(t, d)
	d.Crash(nil, 0) // it is there again
	put(t, f, "two", api.OK)
	holds(t, f, "two")
	holds(t, opened(t, d), "two")
}

func TestNoRoomChangesNothing(t *testing.T) {
	d := disk.New(4)
	f := opened(t, d)
	put(t, f, "one", api.OK)
	for range 2 {
		d.Fuse(0)
		put(t, f, "two", api.ErrFull)
		if f.Over() || d.Down() || d.Waiting() > 0 || d.Used() != 3 {
			t.Error("something was done")
		}
		holds(t, f, "one")
		d.Fuse(-1)
		put(t, f, "", api.OK)
		put(t, f, "one", api.OK)
	}
}

func TestOver(t *testing.T) {
	for fuse := 0; ; fuse++ {
		d := disk.New(roomy)
		f := opened(t, d)
		put(t, f, "one", api.OK)
		d.Fuse(fuse)
		e := f.Put([]byte("two"))
		if e == api.OK && fuse > 0 {
			break
		}
		if e != api.ErrLost {
			t.Fatalf("fuse %d: %d", fuse, e)
		}
		d.Crash(nil, 0)
		put(t, f, "three", api.ErrLost)
		if !f.Over() || d.Waiting() > 0 {
			t.Errorf("fuse %d: it isn't over", fuse)
		}
		holds(t, f, "one")
	}
}

func TestNothingIsShared(t *testing.T) {
	d := disk.New(roomy)
	f := opened(t, d)
	b := []byte("one")
	put(t, f, "", api.OK)
	if e := f.Put(b); e != api.OK {
		t.Fatal(e)
	}
	b[0] = '!'
	got, _ := f.Get()
	got[1] = '!'
	holds(t, f, "one")
	holds(t, opened(t, d), "one")
}
