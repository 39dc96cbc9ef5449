package owner_test

import (
	"strings"
	"testing"

	"tabellion/api"
	"tabellion/owner"
)

func TestIsName(t *testing.T) {
	for _, name := range []string{"a", "z", "az", "log", "zzzz", "abcd"} {
		if !owner.IsName(name) {
			t.Errorf("%q is none", name)
		}
	}
	for _, name := range []string{"", "abcde", "A", "aB", "a1", "0", ".", "a.", ".a", "a.b", " ", "a ", "`", "{", "\x00", "\xff", "é", "a\n", strings.Repeat("a", 1000)} {
		if owner.IsName(name) {
			t.Errorf("%q is one", name)
		}
	}
}

func TestNoByteOfANameButTheNamed(t *testing.T) {
	for c := range 256 {
		asked := 'a' <= c && c <= 'z'
		for _, name := range []string{string([]byte{byte(c)}), string([]byte{'a', byte(c)}), string([]byte{byte(c), 'a', 'a', 'a'})} {
			if owner.IsName(name) != asked {
				t.Errorf("%q: %t", name, !asked)
			}
		}
	}
}

func TestFile(t *testing.T) {
	for _, c := range []struct{ name, rest, asked string }{{"a", "", "a."}, {"a", "b", "a.b"}, {"ab", "7", "ab.7"}, {"abcd", "abc", "abcd.abc"}} {
		got := owner.File(c.name, c.rest)
		if got != c.asked || len(got) > api.MaxName {
			t.Errorf("File(%q, %q): %q, not %q", c.name, c.rest, got, c.asked)
		}
	}
}
