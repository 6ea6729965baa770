package vfs

import (
	"bytes"
	"slices"
	"testing"

	"bollard/api"
	"bollard/disk"
)

// behind is a file system behind a crash: a file /a, whose content was synced,
// was changed by calls of which just one block reached the disk.
func behind(t *testing.T, content []byte, block int, calls ...api.Call) (*FS, *disk.Disk) {
	t.Helper()
	f, d := fresh(t, api.Geom{Groups: 1, Blocks: 64, Inodes: 8})
	does(t, f, create("/a"), write(0, 0, content), synced())
	does(t, f, calls...)
	answers(t, api.OK, f.Volume().Write(block))
	answers(t, api.OK, f.Volume().Complete(0, true))
	f, d = mounted(t, d.Image())
	does(t, f, opened("/a"))
	return f, d
}

// has fails unless the file has these bytes, which lie apart, and noughts
// elsewhere.
func has(t *testing.T, f *FS, size int, content map[int][]byte) {
	t.Helper()
	want := make([]byte, size)
	for off, b := range content {
		copy(want[off:], b)
	}
	if a := does(t, f, read(0, 0, api.MaxFile)); !bytes.Equal(a.Bytes, want) {
		t.Fatalf("%v, want %v", a.Bytes, want)
	}
}

// left tells whether a block of the disk has one of these bytes.
func left(d *disk.Disk, block int, x byte) bool {
	return slices.Contains(d.Image()[block], x)
}

// TestP21_2GrowsOverNoughts: what a crash left behind a file's end is noughts
// when the file grows over it.
func TestP21_2GrowsOverNoughts(t *testing.T) {
	const inodes, first = 2, 5 // the block in which its inode stands, and its own first one
	ten := bytes.Repeat([]byte{1}, 10)
	for _, c := range []struct {
		what string
		make func() (*FS, *disk.Disk)
	}{
		{"a write whose size is lost", func() (*FS, *disk.Disk) {
			return behind(t, ten, first, write(0, 10, bytes.Repeat([]byte{9}, 60)))
		}},
		{"a cut whose noughts are lost", func() (*FS, *disk.Disk) {
			return behind(t, append(slices.Clone(ten), bytes.Repeat([]byte{9}, 60)...), inodes, truncate(0, 10))
		}},
	} {
		f, d := c.make()
		if has(t, f, 10, map[int][]byte{0: ten}); !left(d, first, 9) {
			t.Fatal(c.what, "nothing is left")
		}
		does(t, f, write(0, 50, []byte{2}))
		has(t, f, 51, map[int][]byte{0: ten, 50: {2}})
		does(t, f, write(0, 300, []byte{3}))
		has(t, f, 301, map[int][]byte{0: ten, 50: {2}, 300: {3}})

		f, _ = c.make()
		does(t, f, truncate(0, 40))
		has(t, f, 40, map[int][]byte{0: ten})
		does(t, f, truncate(0, 900), synced())
		has(t, f, 900, map[int][]byte{0: ten})

		f, _ = c.make()
		does(t, f, write(0, 5, bytes.Repeat([]byte{2}, 10))) // over the end, without a gap
		has(t, f, 15, map[int][]byte{0: ten[:5], 5: bytes.Repeat([]byte{2}, 10)})
		does(t, f, truncate(0, 40))
		has(t, f, 40, map[int][]byte{0: ten[:5], 5: bytes.Repeat([]byte{2}, 10)})

		f, _ = c.make()
		was := stateOf(t, f)
		does(t, f, write(0, 50, nil), truncate(0, 10), write(0, 10, nil))
		if is := stateOf(t, f); is.last != was.last || !sameImage(is.image, was.image) {
			t.Fatal(c.what, "nothing was asked, and something has changed")
		}
	}
}

// TestP21_2GrowsAlone: where nothing was left, there are just the patches of
// the write, or of the cut.
func TestP21_2GrowsAlone(t *testing.T) {
	f, _ := fresh(t, small)
	does(t, f, create("/a"), write(0, 0, []byte{1}))
	for _, c := range []struct {
		call    api.Call
		patches int
	}{
		{write(0, 50, []byte{2}), 2}, // its bytes, the inode
		{truncate(0, 90), 1},
		{write(0, 90, []byte{2}), 2},
		{truncate(0, api.MaxFile), 1},
	} {
		last := f.Volume().Last()
		if does(t, f, c.call); f.Volume().Last() != last+c.patches {
			t.Fatal(c.call, f.Volume().Last()-last)
		}
	}
}

// TestP21_2GrowsOverBlocks: a crash left blocks behind the end, whose addresses
// in an indirect block were not cleared.
func TestP21_2GrowsOverBlocks(t *testing.T) {
	const kept = 5 * api.Size
	make7 := func() (*FS, *disk.Disk) {
		return behind(t, bytes.Repeat([]byte{9}, 7*api.Size), 2, truncate(0, kept))
	}
	old := bytes.Repeat([]byte{9}, kept)
	f, d := make7()
	if has(t, f, kept, map[int][]byte{0: old}); leaks(t, d.Image()) != [3]int{} {
		t.Fatal("the blocks are not the file's any more")
	}
	does(t, f, write(0, 6*api.Size+50, []byte{2}))
	has(t, f, 6*api.Size+51, map[int][]byte{0: old, 6*api.Size + 50: {2}})
	does(t, f, truncate(0, 9*api.Size))
	has(t, f, 9*api.Size, map[int][]byte{0: old, 6*api.Size + 50: {2}})
	accepted(t, now(t, f))

	f, _ = make7()
	does(t, f, truncate(0, api.MaxFile))
	has(t, f, api.MaxFile, map[int][]byte{0: old})
	does(t, f, truncate(0, 0), truncate(0, 7*api.Size))
	has(t, f, 7*api.Size, nil)
}

// TestP21_2GrowFails: where a read fails, or there is no room, nothing has
// changed.
func TestP21_2GrowFails(t *testing.T) {
	const first = 5
	f, d := behind(t, []byte{1}, first, write(0, 1, bytes.Repeat([]byte{9}, 60)))
	answers(t, api.OK, d.Fail(first, 1))
	last := f.Volume().Last()
	if _, e := f.Do(write(0, 50, []byte{2})); e != api.ErrIO || f.Volume().Last() != last {
		t.Fatal(e, f.Volume().Last())
	}
	refuses(t, f, api.ErrSpace, write(0, 50, make([]byte, 70*api.Size)))
	has(t, f, 1, map[int][]byte{0: {1}})
	does(t, f, write(0, 50, []byte{2}))
	has(t, f, 51, map[int][]byte{0: {1}, 50: {2}})
}
