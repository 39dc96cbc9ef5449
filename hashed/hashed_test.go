package hashed_test

import (
	"bytes"
	"testing"

	"tabellion/api"
	"tabellion/hashed"
)

func TestLeaf(t *testing.T) {
	for _, data := range []string{"", "a", "\x00", "\x01ab", string(make([]byte, 1000))} {
		if got := hashed.Leaf([]byte(data)); string(got) != "\x00"+data {
			t.Errorf("Leaf(%q): %q", data, got)
		}
	}
	if got := hashed.Leaf(nil); string(got) != "\x00" {
		t.Errorf("Leaf(nil): %q", got)
	}
}

func TestNode(t *testing.T) {
	l, r := api.Hash(bytes.Repeat([]byte{2}, 32)), api.Hash(bytes.Repeat([]byte{3}, 32))
	if got := hashed.Node(l, r); string(got) != "\x01"+string(l[:])+string(r[:]) {
		t.Errorf("Node: %x", got)
	}
}

func TestTextsAreNew(t *testing.T) {
	full := []byte("abcdef")
	text := hashed.Leaf(full[:2])
	clear(text[:cap(text)])
	if string(full) != "abcdef" || string(hashed.Leaf(full[:2])) != "\x00ab" {
		t.Errorf("the data, or its spare room, was changed, or is shared: %q", full)
	}
}
