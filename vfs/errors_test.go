package vfs

import (
	"slices"
	"strings"
	"testing"

	"bollard/adjust"
	"bollard/api"
	"bollard/mkfs"
	"bollard/tree"
)

// town is a tree of few things: /e and /d/e are empty directories, /d has
// names, /a and /b are files.
func town() []api.Call {
	return []api.Call{mkdir("/d"), mkdir("/e"), mkdir("/d/e"), create("/a"), create("/b"), create("/d/f"), closed(0), closed(1), closed(2)}
}

// TestP21_2Errors: each call's errors in their order, two at once where there
// are two, held against the tree.
func TestP21_2Errors(t *testing.T) {
	f, _ := fresh(t, api.Geom{Groups: 1, Blocks: 32, Inodes: 16})
	twin := tree.New()
	for _, c := range town() {
		does(t, f, c)
		if _, e := twin.Do(c); e != api.OK {
			t.Fatal(c, e)
		}
	}
	long := strings.Repeat("/e", api.MaxDepth+1)
	deep := strings.Repeat("/e", api.MaxDepth)
	for _, c := range []struct {
		want api.Errno
		call api.Call
	}{
		{api.ErrExists, mkdir("/")}, {api.ErrName, mkdir("")}, {api.ErrName, mkdir("/d/")}, {api.ErrName, mkdir("/.")}, {api.ErrName, mkdir("/..")},
		{api.ErrLong, mkdir(long)}, {api.ErrAbsent, mkdir(deep)}, {api.ErrAbsent, mkdir("/x/a/b")}, {api.ErrNotDir, mkdir("/a/b")}, {api.ErrNotDir, mkdir("/a/b/c")},
		{api.ErrExists, mkdir("/d")}, {api.ErrExists, mkdir("/a")}, {api.ErrName, mkdir("/" + strings.Repeat("x", api.MaxName+1))},
		{api.ErrExists, create("/")}, {api.ErrName, create("a")}, {api.ErrLong, create(long)}, {api.ErrNotDir, create("/a/b")}, {api.ErrExists, create("/d")}, {api.ErrExists, create("/a")},
		{api.ErrName, opened("")}, {api.ErrLong, opened(long)}, {api.ErrAbsent, opened("/x")}, {api.ErrNotDir, opened("/a/x")}, {api.ErrAbsent, opened("/x/a/b")}, {api.ErrDir, opened("/")}, {api.ErrDir, opened("/d")},
		{api.ErrArg, unlink("/")}, {api.ErrName, unlink("//")}, {api.ErrLong, unlink(long)}, {api.ErrAbsent, unlink("/d/x")}, {api.ErrNotDir, unlink("/a/x")}, {api.ErrDir, unlink("/e")},
		{api.ErrArg, rmdir("/")}, {api.ErrName, rmdir("//")}, {api.ErrLong, rmdir(long)}, {api.ErrAbsent, rmdir("/d/x")}, {api.ErrNotDir, rmdir("/a/x")}, {api.ErrNotDir, rmdir("/a")}, {api.ErrFull, rmdir("/d")},
		{api.ErrArg, link("/", "")}, {api.ErrName, link("a", "/")}, {api.ErrLong, link(long, "/")}, {api.ErrAbsent, link("/x", "/")}, {api.ErrNotDir, link("/a/x", "/")}, {api.ErrDir, link("/d", "/")},
		{api.ErrArg, link("/a", "/")}, {api.ErrName, link("/a", "b")}, {api.ErrLong, link("/a", long)}, {api.ErrAbsent, link("/a", "/x/y")}, {api.ErrNotDir, link("/a", "/b/y")}, {api.ErrExists, link("/a", "/b")}, {api.ErrExists, link("/a", "/a")}, {api.ErrExists, link("/a", "/d")},
		{api.ErrArg, rename("/", "")}, {api.ErrName, rename("a", "/")}, {api.ErrLong, rename(long, "/")}, {api.ErrAbsent, rename("/x", "/")}, {api.ErrNotDir, rename("/a/x", "/")},
		{api.ErrArg, rename("/d", "/")}, {api.ErrName, rename("/d", "/d/")}, {api.ErrLong, rename("/d", "/d"+long)}, {api.ErrAbsent, rename("/d", "/d/x/y")}, {api.ErrNotDir, rename("/d", "/d/f/y")}, {api.ErrNotDir, rename("/a", "/b/c")},
		{api.ErrLoop, rename("/d", "/d/x")}, {api.ErrLoop, rename("/d", "/d/f")}, {api.ErrLoop, rename("/d", "/d/e/x")}, {api.ErrLoop, rename("/d", "/d/e")},
		{api.OK, rename("/d", "/d")}, {api.OK, rename("/a", "/a")}, {api.OK, rename("/d/e", "/d/e")},
		{api.ErrNotDir, rename("/d", "/a")}, {api.ErrNotDir, rename("/e", "/a")}, {api.ErrDir, rename("/a", "/d")}, {api.ErrDir, rename("/a", "/e")}, {api.ErrFull, rename("/e", "/d")}, {api.ErrFull, rename("/d/e", "/d")},
		{api.ErrName, stat("")}, {api.ErrLong, stat(long)}, {api.ErrAbsent, stat("/x")}, {api.ErrNotDir, stat("/a/x")}, {api.ErrNotDir, stat("/a/x/y")},
		{api.ErrName, list("")}, {api.ErrLong, list(long)}, {api.ErrAbsent, list("/x")}, {api.ErrNotDir, list("/a/x")}, {api.ErrNotDir, list("/a")},
		{api.ErrFD, closed(0)}, {api.ErrFD, read(0, -1, -1)}, {api.ErrFD, write(0, -1, nil)}, {api.ErrFD, truncate(0, -1)}, {api.ErrFD, fsync(0)},
	} {
		if _, e := twin.Do(c.call); e != c.want {
			t.Fatalf("%v: the tree tells %v, want %v", c.call, e, c.want)
		}
		refuses(t, f, c.want, c.call)
	}
}

// TestP21_2NoLinksLeft: as many links as an inode may have, of files and of
// directories, and one more.
func TestP21_2NoLinksLeft(t *testing.T) {
	g := api.Geom{Groups: 1, Blocks: 256, Inodes: 8}
	f, _ := fresh(t, g)
	does(t, f, create("/a"), mkdir("/d"))
	for n := 1; n < api.MaxLinks; n++ {
		does(t, f, link("/a", "/d/"+strings.Repeat("x", 1+n%3)+string(rune('0'+n/3%50))+string(rune('A'+n/150))))
		if n%100 == 0 {
			does(t, f, synced())
		}
	}
	if a := does(t, f, stat("/a")); a.Links != api.MaxLinks {
		t.Fatal(a)
	}
	refuses(t, f, api.ErrLinks, link("/a", "/b"))
	refuses(t, f, api.ErrExists, link("/a", "/d"))
	refuses(t, f, api.ErrLinks, rename("/a", "/b"))
	does(t, f, create("/c"), rename("/a", "/a"))
	refuses(t, f, api.ErrLinks, rename("/a", "/c"))
	does(t, f, unlink("/d/xx0A"), rename("/a", "/b"), link("/b", "/a"))
	refuses(t, f, api.ErrLinks, link("/a", "/x"))
	accepted(t, now(t, f))
}

// crowded is the town's image with a directory that says so many links.
func crowded(t *testing.T, path string, links int) [][]byte {
	t.Helper()
	f, d := fresh(t, api.Geom{Groups: 1, Blocks: 32, Inodes: 16})
	does(t, f, town()...)
	does(t, f, synced())
	image := d.Image()
	says(t, image, f.Geom(), inodeOf(t, f, path), links)
	accepted(t, image)
	return image
}

// TestP21_2CrowdedDirectories: ErrLinks of parents, and of directories that are
// moved.
func TestP21_2CrowdedDirectories(t *testing.T) {
	for _, c := range []struct {
		full  string
		call  api.Call
		moved bool // a link more is asked for
	}{
		{"/", mkdir("/x"), true}, {"/d", mkdir("/d/x"), true}, {"/d", mkdir("/x"), false}, {"/", mkdir("/d/x"), false},
		{"/", create("/x"), false}, {"/", rename("/a", "/x"), false}, {"/", link("/a", "/x"), false},
		{"/", rename("/d/e", "/x"), true}, {"/d", rename("/e", "/d/x"), true}, {"/", rename("/d", "/x"), false},
		{"/d", rename("/e", "/d/e"), true}, // over one: a link more, ahead of the other's going
		{"/d", rename("/d", "/x"), true}, {"/e", rename("/e", "/d/x"), true}, {"/e", rename("/e", "/d/e"), true}, {"/e", rename("/e", "/e"), false},
		{"/d", rename("/d", "/d"), false}, {"/d", rename("/d/e", "/d/x"), false}, {"/d", rename("/d/e", "/x"), false},
	} {
		f, _ := mounted(t, crowded(t, c.full, api.MaxLinks-1))
		does(t, f, c.call)
		accepted(t, now(t, f))
		f, _ = mounted(t, crowded(t, c.full, api.MaxLinks))
		if c.moved {
			refuses(t, f, api.ErrLinks, c.call)
			continue
		}
		does(t, f, c.call)
		accepted(t, now(t, f))
	}
	f, _ := mounted(t, crowded(t, "/", api.MaxLinks))
	refuses(t, f, api.ErrExists, mkdir("/d"))
	refuses(t, f, api.ErrExists, mkdir("/"))
	f, _ = mounted(t, crowded(t, "/e", api.MaxLinks))
	refuses(t, f, api.ErrLoop, rename("/e", "/e/x"))
	refuses(t, f, api.ErrNotDir, rename("/e", "/a"))
	refuses(t, f, api.ErrFull, rename("/e", "/d"))
}

// TestP21_2MoreLinksThanNames: a directory that says more links than it has
// does not go, until they are lowered.
func TestP21_2MoreLinksThanNames(t *testing.T) {
	image := crowded(t, "/e", 3)
	f, _ := mounted(t, image)
	refuses(t, f, api.ErrState, rmdir("/e"))
	refuses(t, f, api.ErrState, rename("/d/e", "/e"))
	refuses(t, f, api.ErrState, rename("/d", "/e"))
	refuses(t, f, api.ErrDir, rename("/a", "/e"))
	refuses(t, f, api.ErrDir, unlink("/e"))
	does(t, f, rename("/e", "/e"), create("/e/x"))
	refuses(t, f, api.ErrFull, rmdir("/e"))
	refuses(t, f, api.ErrFull, rename("/d", "/e"))
	does(t, f, unlink("/e/x"), rename("/e", "/d/g"), rename("/d/g", "/e"))
	if a := does(t, f, stat("/e")); a.Links != 3 {
		t.Fatal(a)
	}
	r := api.Request{Kind: api.LowerLinks, N: inodeOf(t, f, "/e"), Gen: 1}
	if _, e := adjust.Do(f.Volume(), f.Geom(), f.Open(), r, 1); e != api.OK {
		t.Fatal(e)
	}
	does(t, f, rename("/d/e", "/e"), rmdir("/e"))
	accepted(t, now(t, f))
	f, _ = mounted(t, image)
	does(t, f, rename("/e", "/d/e")) // it is moved as it is, over one with two
	refuses(t, f, api.ErrState, rmdir("/d/e"))
}

// TestP21_2MoreLinksOfFiles: a file that says more links than it has stays when
// its name goes, and leaks.
func TestP21_2MoreLinksOfFiles(t *testing.T) {
	f, _ := mounted(t, crowded(t, "/a", 2))
	does(t, f, opened("/a"), unlink("/a"), closed(0))
	if got := leaks(t, now(t, f)); got != [3]int{0, 1, 0} {
		t.Fatal(got)
	}
	f, _ = mounted(t, crowded(t, "/a", 2))
	does(t, f, rename("/b", "/a"))
	if got := leaks(t, now(t, f)); got != [3]int{0, 1, 0} {
		t.Fatal(got)
	}
	f, _ = mounted(t, crowded(t, "/a", 1))
	does(t, f, rename("/b", "/a"), unlink("/a"))
	if got := leaks(t, now(t, f)); got != [3]int{} {
		t.Fatal(got)
	}
}

// TestP21_2NoRoom: ErrSpace, and nothing has changed, in calls that have made
// patches already.
func TestP21_2NoRoom(t *testing.T) {
	// No inode is left: the parent's link is patched ahead of that.
	f, _ := fresh(t, api.Geom{Groups: 1, Blocks: 16, Inodes: 4})
	does(t, f, create("/a"))
	refuses(t, f, api.ErrSpace, mkdir("/d"))
	refuses(t, f, api.ErrSpace, create("/b"))
	refuses(t, f, api.ErrExists, mkdir("/a"))
	does(t, f, unlink("/a"))
	refuses(t, f, api.ErrSpace, create("/b")) // it is open still
	does(t, f, closed(0), create("/b"))

	// No block is left: the inode is patched ahead of that.
	f, _ = fresh(t, api.Geom{Groups: 1, Blocks: 8, Inodes: 16})
	does(t, f, create("/a"), write(0, 0, make([]byte, 128)))
	refuses(t, f, api.ErrSpace, mkdir("/d"))
	refuses(t, f, api.ErrSpace, write(0, 128, []byte{1}))
	refuses(t, f, api.ErrSpace, write(0, 100, make([]byte, 100)))
	for i := range 5 { // the root's block is full then
		does(t, f, create("/"+string(rune('b'+i))))
	}
	refuses(t, f, api.ErrSpace, create("/x"))
	refuses(t, f, api.ErrSpace, link("/a", "/x"))
	refuses(t, f, api.ErrSpace, rename("/a", "/x"))
	does(t, f, rename("/a", "/b"), rename("/c", "/x"), truncate(0, 0), mkdir("/y"))
	accepted(t, now(t, f))

	// A directory is moved into one that is full.
	f, _ = fresh(t, api.Geom{Groups: 1, Blocks: 9, Inodes: 16})
	does(t, f, mkdir("/d"), mkdir("/e"))
	for i := range 6 {
		does(t, f, create("/d/"+string(rune('b'+i))), closed(0))
	}
	refuses(t, f, api.ErrSpace, rename("/e", "/d/x"))
	refuses(t, f, api.ErrSpace, rename("/d/b", "/d/x"))
	refuses(t, f, api.ErrNotDir, rename("/e", "/d/b"))
	does(t, f, unlink("/d/g"), rename("/e", "/d/x"))
	accepted(t, now(t, f))
}

// TestP21_2NotAccepted: images that can't be are mounted all the same: calls
// tell errors of the layers below, and nothing has changed.
func TestP21_2NotAccepted(t *testing.T) {
	f, d := fresh(t, small)
	does(t, f, mkdir("/d"), create("/a"), synced())
	good := d.Image()
	root, dir := good[4], good[5]
	if string(root[35:36]) != "d" || string(root[51:52]) != "a" || dir[0] != 3 {
		t.Fatal(root, dir)
	}
	hurt := func(change func(image [][]byte)) *FS {
		t.Helper()
		image := make([][]byte, len(good))
		for i := range good {
			image[i] = slices.Clone(good[i])
		}
		change(image)
		f, _ := mounted(t, image)
		return f
	}
	f = hurt(func(image [][]byte) { image[4][32] = 8 }) // an inode that there is not
	for _, c := range []api.Call{stat("/d"), opened("/d"), unlink("/d"), rmdir("/d"), list("/d"), stat("/d/x"), create("/d/x"), rename("/d", "/x"), link("/d", "/x"), rename("/a", "/d")} {
		refuses(t, f, api.ErrInode, c)
	}
	does(t, f, stat("/a"))
	f = hurt(func(image [][]byte) { image[5][2] = 200 }) // a directory's block that may not be
	for _, c := range []api.Call{stat("/d/x"), rmdir("/d"), list("/d"), create("/d/x"), mkdir("/d/x"), rename("/d", "/d/x"), rename("/a", "/d/x"), link("/a", "/d/x"), unlink("/d/x")} {
		refuses(t, f, api.ErrForm, c)
	}
	does(t, f, stat("/d"))
	f = hurt(func(image [][]byte) { image[1][0] = 0 }) // no header
	for _, c := range []api.Call{mkdir("/x"), create("/x"), write(0, 0, []byte{1}), rmdir("/d"), unlink("/a")} {
		want := api.ErrMagic
		if c.Kind == api.CallWrite {
			want = api.ErrFD
		}
		refuses(t, f, want, c)
	}
	does(t, f, opened("/a"))
	refuses(t, f, api.ErrMagic, write(0, 0, []byte{1}))
	does(t, f, unlink("/a"))
	refuses(t, f, api.ErrMagic, closed(0)) // it has the file still
	does(t, f, read(0, 0, 1))
	f = hurt(func(image [][]byte) { clear(image[5][16:32]) }) // a directory without a parent
	refuses(t, f, api.ErrAbsent, rmdir("/d"))
	refuses(t, f, api.ErrAbsent, rename("/d", "/x"))
	f = hurt(func(image [][]byte) { image[2][96] ^= 1 }) // an inode that is not sealed
	for _, c := range []api.Call{stat("/d"), stat("/d/x"), rename("/d", "/"), rename("/d", "/x")} {
		want := api.ErrSum
		if c.Other == "/" {
			want = api.ErrArg
		}
		refuses(t, f, want, c)
	}
}

// TestP21_2ManyBlocks: a directory that has grown, also by indirect blocks.
func TestP21_2ManyBlocks(t *testing.T) {
	f, d := fresh(t, api.Geom{Groups: 2, Blocks: 64, Inodes: 8})
	does(t, f, mkdir("/d"), create("/a"), closed(0))
	var want []string
	for i := range 60 {
		name := string(rune('A'+i%26)) + string(rune('a'+i/26))
		does(t, f, link("/a", "/d/"+name))
		want = append(want, name)
	}
	slices.Sort(want)
	if a := does(t, f, list("/d")); !slices.Equal(a.Names, want) {
		t.Fatal(a.Names)
	}
	if a := does(t, f, stat("/d")); a.Size != 0 || a.Links != 2 {
		t.Fatal(a)
	}
	does(t, f, synced())
	for _, name := range want {
		does(t, f, unlink("/d/"+name))
	}
	does(t, f, rmdir("/d"), synced())
	if got := leaks(t, d.Image()); got != [3]int{} {
		t.Fatal(got)
	}
	if image, e := mkfs.Make(f.Geom()); e != api.OK || !slices.Equal(image[1][12:44], d.Image()[1][12:44]) {
		t.Fatal("blocks are not given back")
	}
}
