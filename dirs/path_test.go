package dirs

import (
	"slices"
	"strings"
	"testing"

	"bollard/api"
)

// path is the path of names.
func path(names ...string) string {
	return "/" + strings.Join(names, "/")
}

// deep is so many names, of which no two are the same.
func deep(n int) []string {
	var names []string
	for i := range n {
		names = append(names, "n"+strings.Repeat("x", i%12)+string(rune('A'+i%26)))
	}
	return names
}

func TestP12_4Split(t *testing.T) {
	for _, names := range [][]string{
		{}, {"a"}, {"a", "b"}, {"a", "a", "a"}, {"..."}, {".a", "a.", "..a"}, {"abcdefghijklm"}, {"!", "~", "-"},
		deep(2), deep(31), deep(32), slices.Repeat([]string{"abcdefghijklm"}, 32),
	} {
		got, why := Split(path(names...))
		if !slices.Equal(got, names) || why != api.OK {
			t.Errorf("%q: %q, %v", names, got, why)
		}
		dir, base, why := Base(path(names...))
		if len(names) == 0 {
			if len(dir) != 0 || base != "" || why != api.ErrArg {
				t.Errorf("the root: %q, %q, %v", dir, base, why)
			}
			continue
		}
		last := len(names) - 1
		if !slices.Equal(dir, names[:last]) || base != names[last] || why != api.OK {
			t.Errorf("%q: %q, %q, %v", names, dir, base, why)
		}
	}
}

// fails fails unless both calls have that error, and nothing beside it.
func fails(t *testing.T, path string, want api.Errno) {
	t.Helper()
	if got, why := Split(path); len(got) != 0 || why != want {
		t.Errorf("%.99q: %q, %v; want %v", path, got, why, want)
	}
	if dir, base, why := Base(path); len(dir) != 0 || base != "" || why != want {
		t.Errorf("%.99q: %q, %q, %v; want %v", path, dir, base, why, want)
	}
}

func TestP12_4NoPath(t *testing.T) {
	for _, p := range []string{
		"", "a", "a/b", "a/", "//", "///", "/a/", "/a//", "//a", "/a//b", "/a/b/", " /a", "/ ", "/a b", "\\a", "\x00", "\xff",
		"/.", "/..", "/./a", "/../a", "/a/.", "/a/..", "/a/./b", "/a/../b", "./a", "../a", ".",
		"/abcdefghijklmn", "/a/abcdefghijklmn", "/abcdefghijklmn/a", "/a\x00", "/\x00", "/\x7f", "/é", "/\x1f/a", "/a/\xff",
		"/" + strings.Repeat("a", 1<<20), strings.Repeat("/", 1<<20), strings.Repeat("a", 1<<20), strings.Repeat("a/", 1<<20),
	} {
		fails(t, p, api.ErrName)
	}
	for x := range 256 {
		c := string([]byte{byte(x)})
		letter := x >= 33 && x <= 126 && c != "/"
		for _, p := range []string{"/a" + c + "b", "/q/a" + c + "b/r"} {
			if _, why := Split(p); c != "/" && (why == api.OK) != letter {
				t.Errorf("%q: %v", p, why)
			}
		}
	}
}

func TestP12_4TooLong(t *testing.T) {
	for _, n := range []int{33, 34, 64, 1 << 16} {
		fails(t, path(deep(n)...), api.ErrLong)
		// What is no path is told first, wherever that is seen.
		fails(t, path(deep(n)...)+"/", api.ErrName)
		fails(t, path(append(deep(n), "..")...), api.ErrName)
		fails(t, path(append(deep(n), "abcdefghijklmn", "a")...), api.ErrName)
		fails(t, path(append([]string{"."}, deep(n)...)...), api.ErrName)
		fails(t, path(deep(n)...)[1:], api.ErrName)
	}
	fails(t, path(deep(32)...)+"/", api.ErrName)
	fails(t, path(append(deep(32), ".")...), api.ErrName)
}

func TestP12_4Memory(t *testing.T) {
	first, _ := Split("/a/b/c")
	second, _ := Split("/a/b/c")
	dir, base, _ := Base("/a/b/c")
	scribble(first, "scribble")
	scribble(dir, "scribble")
	if !slices.Equal(second, []string{"a", "b", "c"}) || base != "c" {
		t.Fatal("two answers share memory")
	}
	if again, _, _ := Base("/a/b/c"); !slices.Equal(again, []string{"a", "b"}) {
		t.Fatal(again)
	}
}
