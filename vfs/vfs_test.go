package vfs

import (
	"bytes"
	"math"
	"reflect"
	"slices"
	"testing"

	"bollard/api"
	"bollard/disk"
	"bollard/mkfs"
)

// TestP21_1Mount: mkfs.Mount's errors, and nothing on the disk has changed.
func TestP21_1Mount(t *testing.T) {
	good, e := mkfs.Make(small)
	answers(t, api.OK, e)
	blank, e := disk.New(32)
	answers(t, api.OK, e)
	short, e := disk.Of(good[:31])
	answers(t, api.OK, e)
	torn, e := disk.Of(good)
	answers(t, api.OK, e)
	answers(t, api.OK, torn.Fail(0, 1))
	for _, c := range []struct {
		d    *disk.Disk
		want api.Errno
	}{{nil, api.ErrNil}, {&disk.Disk{}, api.ErrNil}, {blank, api.ErrMagic}, {short, api.ErrGeom}, {torn, api.ErrIO}} {
		was := c.d.Image()
		if f, e := Mount(c.d); f != nil || e != c.want {
			t.Fatal(f, e, c.want)
		}
		if !sameImage(c.d.Image(), was) || len(c.d.Queue()) > 0 {
			t.Fatal("the disk has changed")
		}
	}
	f, e := Mount(torn) // it failed just once
	if e != api.OK || f.Volume().Last() != 1 || !slices.Equal(f.Volume().Dirty(), []int{0}) {
		t.Fatal(e, f.Volume().Last(), f.Volume().Dirty())
	}
	if len(f.Open()) != 0 || f.Geom() != small || !sameImage(torn.Image(), good) {
		t.Fatal(f.Open(), f.Geom())
	}
	for fd := range api.MaxFDs {
		refuses(t, f, api.ErrFD, read(fd, 0, 1))
	}
}

// TestP21_1NoneMade: file systems that no call made.
func TestP21_1NoneMade(t *testing.T) {
	for _, f := range []*FS{nil, {}} {
		for kind := -1; kind <= api.NumCalls; kind++ {
			a, e := f.Do(api.Call{Kind: kind, Path: "/a", Other: "/b", Bytes: []byte{1}})
			if e != api.ErrNil || !reflect.DeepEqual(a, api.Answer{}) {
				t.Fatal(kind, a, e)
			}
		}
		if f.Volume() != nil || f.Geom() != (api.Geom{}) || len(f.Open()) != 0 {
			t.Fatal(f.Volume(), f.Geom(), f.Open())
		}
	}
}

// TestP21_2Kinds: a call that is none.
func TestP21_2Kinds(t *testing.T) {
	f, _ := fresh(t, small)
	for _, kind := range []int{0, -1, api.NumCalls, api.NumCalls + 1, math.MaxInt, math.MinInt} {
		refuses(t, f, api.ErrArg, api.Call{Kind: kind, Path: "/", Other: "/"})
	}
}

// TestP21_3Told: the volume itself, its geometry, and what is open.
func TestP21_3Told(t *testing.T) {
	f, _ := fresh(t, wide)
	v := f.Volume()
	if v == nil || v.Blocks() != 72 || f.Geom() != wide {
		t.Fatal(v, f.Geom())
	}
	does(t, f, create("/a"), create("/b"), opened("/a"), opened("/b"), opened("/a"))
	if f.Volume() != v {
		t.Fatal("another volume")
	}
	a, b := inodeOf(t, f, "/a"), inodeOf(t, f, "/b")
	if !slices.Equal(f.Open(), []int{a, b}) || a != 3 || b != 4 {
		t.Fatal(f.Open(), a, b)
	}
	f.Open()[0] = 99
	does(t, f, closed(0), closed(2))
	if !slices.Equal(f.Open(), []int{a, b}) {
		t.Fatal(f.Open())
	}
	does(t, f, closed(4))
	if !slices.Equal(f.Open(), []int{b}) {
		t.Fatal(f.Open())
	}
	does(t, f, closed(1), closed(3))
	if len(f.Open()) != 0 {
		t.Fatal(f.Open())
	}
}

// TestP21_2Rising: what is open is told by inodes, not by descriptors.
func TestP21_2Rising(t *testing.T) {
	f, _ := fresh(t, small)
	does(t, f, create("/a"), create("/b"), create("/c"), closed(0), closed(1), closed(2))
	does(t, f, opened("/c"), opened("/a"), opened("/b"))
	if !slices.Equal(f.Open(), []int{3, 4, 5}) {
		t.Fatal(f.Open())
	}
}

// TestP21_2Descriptors: the lowest that is free, up to as many as there may be.
func TestP21_2Descriptors(t *testing.T) {
	f, _ := fresh(t, small)
	does(t, f, mkdir("/d"))
	for fd := range api.MaxFDs {
		c := opened("/a")
		if fd == 0 {
			c = create("/a")
		}
		if a := does(t, f, c); a.N != fd {
			t.Fatal(a, fd)
		}
	}
	refuses(t, f, api.ErrMany, opened("/a"))
	refuses(t, f, api.ErrMany, create("/b"))
	refuses(t, f, api.ErrExists, create("/a"))
	refuses(t, f, api.ErrExists, create("/"))
	refuses(t, f, api.ErrDir, opened("/d"))
	refuses(t, f, api.ErrAbsent, opened("/b"))
	does(t, f, closed(9), closed(5))
	refuses(t, f, api.ErrFD, closed(5))
	if a := does(t, f, opened("/a")); a.N != 5 {
		t.Fatal(a)
	}
	if a := does(t, f, create("/b")); a.N != 9 {
		t.Fatal(a)
	}
	for _, fd := range []int{-1, api.MaxFDs, math.MaxInt, math.MinInt} {
		for _, c := range []api.Call{closed(fd), read(fd, -1, -1), write(fd, -1, nil), truncate(fd, -1), fsync(fd)} {
			refuses(t, f, api.ErrFD, c)
		}
	}
}

// TestP21_2Numbers: numbers below 0, and huge ones.
func TestP21_2Numbers(t *testing.T) {
	f, _ := fresh(t, small)
	does(t, f, create("/a"))
	for _, n := range []int{-1, math.MinInt} {
		refuses(t, f, api.ErrArg, read(0, n, 1))
		refuses(t, f, api.ErrArg, read(0, 1, n))
		refuses(t, f, api.ErrArg, write(0, n, []byte{1}))
		refuses(t, f, api.ErrArg, write(0, n, nil))
		refuses(t, f, api.ErrArg, truncate(0, n))
	}
	for _, n := range []int{api.MaxFile + 1, math.MaxInt} {
		refuses(t, f, api.ErrBig, write(0, n, nil))
		refuses(t, f, api.ErrBig, write(0, n, []byte{1}))
		refuses(t, f, api.ErrBig, truncate(0, n))
		if a := does(t, f, read(0, n, n)); a.N != 0 || len(a.Bytes) != 0 {
			t.Fatal(a)
		}
	}
	refuses(t, f, api.ErrBig, write(0, api.MaxFile, []byte{1}))
	if a := does(t, f, write(0, api.MaxFile, nil)); a.N != 0 {
		t.Fatal(a)
	}
	if a := does(t, f, stat("/a")); a.Size != 0 {
		t.Fatal(a)
	}
	if a := does(t, f, write(0, api.MaxFile-1, []byte{7})); a.N != 1 {
		t.Fatal(a)
	}
	if a := does(t, f, read(0, api.MaxFile-2, math.MaxInt)); !bytes.Equal(a.Bytes, []byte{0, 7}) || a.N != 2 {
		t.Fatal(a)
	}
	does(t, f, truncate(0, 0), truncate(0, api.MaxFile))
	if a := does(t, f, stat("/a")); a.Size != api.MaxFile || a.Mode != api.ModeFile || a.Links != 1 {
		t.Fatal(a)
	}
	accepted(t, now(t, f))
}

// TestP21_2Memory: what is handed in stays as it was, and is not kept; what is
// told is memory of its own.
func TestP21_2Memory(t *testing.T) {
	f, _ := fresh(t, small)
	does(t, f, create("/b"), create("/a"))
	room := []byte{1, 2, 3, 4, 5, 6}
	does(t, f, write(0, 0, room[1:3]))
	if !slices.Equal(room, []byte{1, 2, 3, 4, 5, 6}) {
		t.Fatal(room)
	}
	clear(room)
	a := does(t, f, read(0, 0, 9))
	if !slices.Equal(a.Bytes, []byte{2, 3}) {
		t.Fatal(a)
	}
	clear(a.Bytes[:cap(a.Bytes)])
	if a := does(t, f, read(0, 0, 9)); !slices.Equal(a.Bytes, []byte{2, 3}) {
		t.Fatal(a)
	}
	l := does(t, f, list("/"))
	clear(l.Names[:cap(l.Names)])
	if l := does(t, f, list("/")); !slices.Equal(l.Names, []string{"a", "b"}) {
		t.Fatal(l)
	}
}

// TestP21_2Example: the chapter's, and those of the whole.
func TestP21_2Example(t *testing.T) {
	f, d := fresh(t, small)
	if a := does(t, f, stat("/")); a.Mode != api.ModeDir || a.Links != 2 || a.Size != 0 {
		t.Fatal(a)
	}
	if a := does(t, f, create("/a")); a.N != 0 {
		t.Fatal(a)
	}
	if a := does(t, f, write(0, 0, []byte("x"))); a.N != 1 {
		t.Fatal(a)
	}
	does(t, f, synced())
	answers(t, api.OK, d.Crash(nil))
	f, e := Mount(d)
	answers(t, api.OK, e)
	if a := does(t, f, stat("/a")); a.Size != 1 || a.Links != 1 || a.Mode != api.ModeFile {
		t.Fatal(a)
	}
	does(t, f, opened("/a"), unlink("/a"))
	refuses(t, f, api.ErrAbsent, stat("/a"))
	if a := does(t, f, read(0, 0, 5)); string(a.Bytes) != "x" {
		t.Fatal(a)
	}
	does(t, f, write(0, 100, make([]byte, 200)), closed(0), mkdir("/d"))
	refuses(t, f, api.ErrLoop, rename("/d", "/d/e"))
	does(t, f, rmdir("/d"), synced())
	if got := leaks(t, d.Image()); got != [3]int{} {
		t.Fatal(got)
	}
}
