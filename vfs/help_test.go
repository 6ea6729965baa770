package vfs

import (
	"bytes"
	"reflect"
	"slices"
	"testing"

	"bollard/adjust"
	"bollard/api"
	"bollard/disk"
	"bollard/geom"
	"bollard/layout"
	"bollard/mkfs"
	"bollard/scan"
)

var (
	small = api.Geom{Groups: 1, Blocks: 32, Inodes: 8}
	wide  = api.Geom{Groups: 3, Blocks: 24, Inodes: 8}
)

func mkdir(path string) api.Call  { return api.Call{Kind: api.CallMkdir, Path: path} }
func create(path string) api.Call { return api.Call{Kind: api.CallCreate, Path: path} }
func opened(path string) api.Call { return api.Call{Kind: api.CallOpen, Path: path} }
func closed(fd int) api.Call      { return api.Call{Kind: api.CallClose, FD: fd} }
func unlink(path string) api.Call { return api.Call{Kind: api.CallUnlink, Path: path} }
func rmdir(path string) api.Call  { return api.Call{Kind: api.CallRmdir, Path: path} }
func stat(path string) api.Call   { return api.Call{Kind: api.CallStat, Path: path} }
func list(path string) api.Call   { return api.Call{Kind: api.CallList, Path: path} }
func fsync(fd int) api.Call       { return api.Call{Kind: api.CallFsync, FD: fd} }
func synced() api.Call            { return api.Call{Kind: api.CallSync} }
func truncate(fd, n int) api.Call { return api.Call{Kind: api.CallTruncate, FD: fd, N: n} }

func read(fd, off, n int) api.Call {
	return api.Call{Kind: api.CallRead, FD: fd, Off: off, N: n}
}

func write(fd, off int, b []byte) api.Call {
	return api.Call{Kind: api.CallWrite, FD: fd, Off: off, Bytes: b}
}

func rename(path, other string) api.Call {
	return api.Call{Kind: api.CallRename, Path: path, Other: other}
}

func link(path, other string) api.Call {
	return api.Call{Kind: api.CallLink, Path: path, Other: other}
}

func answers(t *testing.T, want, e api.Errno) {
	t.Helper()
	if e != want {
		t.Fatalf("%v, want %v", e, want)
	}
}

// mounted is a file system on a disk of an image.
func mounted(t *testing.T, image [][]byte) (*FS, *disk.Disk) {
	t.Helper()
	d, e := disk.Of(image)
	answers(t, api.OK, e)
	f, e := Mount(d)
	answers(t, api.OK, e)
	return f, d
}

// fresh is a new volume's.
func fresh(t *testing.T, g api.Geom) (*FS, *disk.Disk) {
	t.Helper()
	image, e := mkfs.Make(g)
	answers(t, api.OK, e)
	return mounted(t, image)
}

// does makes calls that have no errors: the last one's answer.
func does(t *testing.T, f *FS, calls ...api.Call) api.Answer {
	t.Helper()
	var a api.Answer
	for _, c := range calls {
		var e api.Errno
		if a, e = f.Do(c); e != api.OK {
			t.Fatalf("%v: %v", c, e)
		}
	}
	return a
}

// state is all of a file system that a later call could tell.
type state struct {
	image   [][]byte
	last    int
	open    []int
	files   [api.MaxFDs]int
	pending map[int][]int
	ready   []int
}

func stateOf(t *testing.T, f *FS) state {
	t.Helper()
	s := state{image: now(t, f), last: f.Volume().Last(), open: f.Open(), files: f.files, pending: map[int][]int{}, ready: f.Volume().Ready()}
	for _, b := range f.Volume().Dirty() {
		s.pending[b] = f.Volume().Pending(b)
	}
	return s
}

// now is the image with all patches.
func now(t *testing.T, f *FS) [][]byte {
	t.Helper()
	image, e := adjust.Image(f.Volume())
	answers(t, api.OK, e)
	return image
}

// refuses makes a call that has an error: nothing has changed.
func refuses(t *testing.T, f *FS, want api.Errno, c api.Call) {
	t.Helper()
	was := stateOf(t, f)
	a, e := f.Do(c)
	if e != want || !reflect.DeepEqual(a, api.Answer{}) {
		t.Fatalf("%v: %v, %v; want %v", c, a, e, want)
	}
	if is := stateOf(t, f); !reflect.DeepEqual(is, was) {
		t.Fatalf("%v, %v: something has changed: %v, was %v", c, e, is.last, was.last)
	}
}

// same tells whether two answers are the same; lists may be nil or empty.
func same(a, b api.Answer) bool {
	return a.N == b.N && bytes.Equal(a.Bytes, b.Bytes) && slices.Equal(a.Names, b.Names) &&
		a.Mode == b.Mode && a.Links == b.Links && a.Size == b.Size
}

func accepted(t *testing.T, image [][]byte) {
	t.Helper()
	answers(t, api.OK, scan.Accept(image))
}

func sameImage(a, b [][]byte) bool {
	return slices.EqualFunc(a, b, bytes.Equal)
}

// leaks is what scan finds in an image, as numbers: blocks, inodes, links.
func leaks(t *testing.T, image [][]byte) [3]int {
	t.Helper()
	l, e := scan.Leaks(image)
	answers(t, api.OK, e)
	return [3]int{len(l.Blocks), len(l.Inodes), len(l.Links)}
}

// says has an inode of an image say so many links.
func says(t *testing.T, image [][]byte, g api.Geom, ino, links int) {
	t.Helper()
	block, at, ok := geom.Inode(g, ino)
	if !ok {
		t.Fatal(ino)
	}
	d, e := layout.DecodeDinode(image[block][at : at+api.DinodeLen])
	answers(t, api.OK, e)
	d.Links = links
	b, e := layout.EncodeDinode(d)
	answers(t, api.OK, e)
	copy(image[block][at:], b)
}

// inodeOf is the inode of a path.
func inodeOf(t *testing.T, f *FS, path string) int {
	t.Helper()
	ino, _, e := f.thing(path)
	answers(t, api.OK, e)
	return ino
}
