package tree

import (
	"slices"
	"testing"

	"bollard/api"
)

func TestP14_1RenameFile(t *testing.T) {
	x := wood(t)
	does(t, x, rename("/f", "/d/e/new"))
	tells(t, x, stat("/d/e/new"), api.Answer{Mode: api.ModeFile, Links: 2, Size: 3})
	refuses(t, x, api.ErrAbsent, stat("/f"))
	does(t, x, rename("/d/e/new", "/d/e/new2"))
	if want := []string{"/", "/d", "/d/e", "/d/e/g", "/d/e/i", "/d/e/new2", "/d/h", "/empty"}; !slices.Equal(x.Paths(), want) {
		t.Fatal(x.Paths())
	}
	does(t, x, write(0, 0, "E"), opened("/d/e/new2"))
	tells(t, x, read(3, 0, 9), api.Answer{N: 3, Bytes: []byte("Eff")})
}

// TestP14_1RenameOver: what had the name has one name less.
func TestP14_1RenameOver(t *testing.T) {
	x := wood(t)
	does(t, x, rename("/d/e/i", "/f"))
	tells(t, x, stat("/f"), api.Answer{Mode: api.ModeFile, Links: 1, Size: 301})
	tells(t, x, stat("/d/h"), api.Answer{Mode: api.ModeFile, Links: 1, Size: 3})
	does(t, x, rename("/f", "/d/h")) // its last one: descriptor 0 has it still
	tells(t, x, read(0, 0, 9), api.Answer{N: 3, Bytes: []byte("eff")})
	tells(t, x, stat("/d/h"), api.Answer{Mode: api.ModeFile, Links: 1, Size: 301})
	does(t, x, closed(0), closed(2), closed(1))
	if want := []string{"/", "/d", "/d/e", "/d/e/g", "/d/h", "/empty"}; !slices.Equal(x.Paths(), want) {
		t.Fatal(x.Paths())
	}
}

func TestP14_1RenameDir(t *testing.T) {
	x := wood(t)
	does(t, x, rename("/d/e", "/empty/e")) // into another one
	tells(t, x, stat("/d"), api.Answer{Mode: api.ModeDir, Links: 2})
	tells(t, x, stat("/empty"), api.Answer{Mode: api.ModeDir, Links: 3})
	tells(t, x, stat("/empty/e"), api.Answer{Mode: api.ModeDir, Links: 3})
	tells(t, x, stat("/empty/e/i"), api.Answer{Mode: api.ModeFile, Links: 1, Size: 301})
	does(t, x, rename("/empty/e", "/empty/new")) // in the same one
	tells(t, x, stat("/empty"), api.Answer{Mode: api.ModeDir, Links: 3})
	does(t, x, mkdir("/over"), rename("/empty/new", "/over")) // over an empty one of another one
	tells(t, x, stat("/"), api.Answer{Mode: api.ModeDir, Links: 5})
	tells(t, x, stat("/empty"), api.Answer{Mode: api.ModeDir, Links: 2})
	tells(t, x, list("/over"), api.Answer{Names: []string{"g", "i"}})
	does(t, x, rename("/over", "/empty")) // of the same one
	tells(t, x, stat("/"), api.Answer{Mode: api.ModeDir, Links: 4})
	if want := []string{"/", "/d", "/d/h", "/empty", "/empty/g", "/empty/i", "/f"}; !slices.Equal(x.Paths(), want) {
		t.Fatal(x.Paths())
	}
}

func TestP14_1RenameLoop(t *testing.T) {
	x := wood(t)
	refuses(t, x, api.ErrLoop, rename("/d", "/d/x"), rename("/d", "/d/e/x"), rename("/d", "/d/e/g/x"), rename("/d/e", "/d/e/g/x"),
		rename("/d", "/d/h"), rename("/d", "/d/e"), rename("/d/e", "/d/e/i")) // whether the name is there or not
	refuses(t, x, api.ErrAbsent, rename("/d", "/d/n/x")) // the parent comes first
	refuses(t, x, api.ErrNotDir, rename("/d", "/d/h/x"))
}

// TestP14_1RenameItself: nothing happens, if both names have one thing.
func TestP14_1RenameItself(t *testing.T) {
	x := wood(t)
	was := picture(x)
	does(t, x, rename("/f", "/f"), rename("/f", "/d/h"), rename("/d/h", "/f"), rename("/d", "/d"), rename("/d/e", "/d/e"), rename("/empty", "/empty"))
	if is := picture(x); !slices.Equal(is, was) {
		t.Fatal(is, was)
	}
}

func TestP14_1RenameRefuses(t *testing.T) {
	x := wood(t)
	refuses(t, x, api.ErrNotDir, rename("/d", "/f"), rename("/empty", "/d/h"), rename("/d/e", "/d/h"))
	refuses(t, x, api.ErrDir, rename("/f", "/d"), rename("/f", "/empty"), rename("/d/e/i", "/d/e"), rename("/d/h", "/d"))
	refuses(t, x, api.ErrFull, rename("/empty", "/d"), rename("/d/e/g", "/d/e"), rename("/d/e", "/d"), rename("/empty", "/d/e"))
}

// TestP14_1RenameParentLinks: a directory that comes from elsewhere needs a link
// of its new parent; one that was there, or takes another one's place, does
// not, and no file does.
func TestP14_1RenameParentLinks(t *testing.T) {
	x := New()
	crowded(t, x, "/c")
	does(t, x, mkdir("/a"), create("/f"), mkdir("/b"))
	refuses(t, x, api.ErrLinks, rename("/a", "/c/new"))
	refuses(t, x, api.ErrNotDir, rename("/a", "/c/file"))
	does(t, x, rename("/f", "/c/new"), rename("/c/0", "/c/zero"), rename("/a", "/c/1"))
	tells(t, x, stat("/c"), api.Answer{Mode: api.ModeDir, Links: api.MaxLinks})
	does(t, x, rename("/c/2", "/c/3"), rename("/b", "/c/2"))
	tells(t, x, stat("/c"), api.Answer{Mode: api.ModeDir, Links: api.MaxLinks})
	refuses(t, x, api.ErrLoop, rename("/c", "/c/more"))
}

// TestP14_1RenameOwnLinks: a thing that has as many links as may be keeps its
// names, wherever the new one would stand.
func TestP14_1RenameOwnLinks(t *testing.T) {
	x := New()
	linked(t, x)
	crowded(t, x, "/c")
	does(t, x, mkdir("/a"), mkdir("/e"), create("/f"), closed(0))
	refuses(t, x, api.ErrLinks, rename("/l/0", "/new"), rename("/l/0", "/l/new"), rename("/l/0", "/f"))
	refuses(t, x, api.ErrLinks, rename("/c", "/new"), rename("/c", "/a/new"), rename("/c", "/e"))
	refuses(t, x, api.ErrDir, rename("/l/0", "/a")) // ahead of ErrLinks
	refuses(t, x, api.ErrNotDir, rename("/c", "/f"))
	refuses(t, x, api.ErrFull, rename("/c", "/l"))
	refuses(t, x, api.ErrLoop, rename("/c", "/c/0/new"))
	does(t, x, rename("/l/0", "/l/1"), rename("/c", "/c")) // nothing happens
	does(t, x, unlink("/l/1"), rename("/l/0", "/f"), rmdir("/c/0"), rename("/c", "/e"))
	tells(t, x, stat("/f"), api.Answer{Mode: api.ModeFile, Links: api.MaxLinks - 1})
	tells(t, x, stat("/e"), api.Answer{Mode: api.ModeDir, Links: api.MaxLinks - 1})
}
