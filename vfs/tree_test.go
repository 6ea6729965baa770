package vfs

import (
	"bytes"
	"math/rand"
	"slices"
	"strings"
	"testing"

	"bollard/api"
	"bollard/file"
	"bollard/names"
	"bollard/tree"
)

// anyPath is one of few, so that most are there now and then.
func anyPath(source *rand.Rand) string {
	if source.Intn(40) == 0 {
		return []string{"/", "", "a", "/a/", "//a", strings.Repeat("/a", 33)}[source.Intn(6)]
	}
	path := ""
	for range 1 + source.Intn(3) {
		path += "/" + []string{"a", "b", "c", "d"}[source.Intn(4)]
	}
	return path
}

func anyNumber(source *rand.Rand) int {
	if source.Intn(25) == 0 {
		return []int{-1, api.MaxFile, api.MaxFile + 1, api.MaxFile - 3, 1 << 40}[source.Intn(5)]
	}
	return source.Intn([]int{4, 130, 900}[source.Intn(3)])
}

func anyCall(source *rand.Rand) api.Call {
	kind := 1 + source.Intn(api.NumCalls)
	if kind == api.NumCalls {
		kind = []int{0, -1, api.NumCalls, api.CallCreate, api.CallWrite}[source.Intn(5)]
	}
	if kind == api.CallSync || kind == api.CallFsync {
		if source.Intn(5) > 0 {
			kind = api.CallRename
		}
	}
	c := api.Call{Kind: kind, FD: source.Intn(6) - 1, Off: anyNumber(source), N: anyNumber(source), Path: anyPath(source), Other: anyPath(source)}
	c.Bytes = make([]byte, source.Intn([]int{1, 9, 300}[source.Intn(3)])+source.Intn(2))
	for i := range c.Bytes {
		c.Bytes[i] = byte(1 + source.Intn(3))
	}
	return c
}

// flush sends some blocks to the disk, and completes some writes.
func flush(t *testing.T, source *rand.Rand, f *FS) {
	t.Helper()
	for range source.Intn(4) {
		if l := f.Volume().Ready(); len(l) > 0 {
			answers(t, api.OK, f.Volume().Write(l[source.Intn(len(l))]))
		}
	}
	for range source.Intn(4) {
		if n := len(f.Volume().Way()); n > 0 {
			f.Volume().Complete(source.Intn(n), source.Intn(8) > 0)
		}
	}
}

// held fails unless a file system has what a tree has.
func held(t *testing.T, f *FS, x *tree.Tree) {
	t.Helper()
	for _, path := range x.Paths() {
		want, e := x.Do(stat(path))
		answers(t, api.OK, e)
		if got := does(t, f, stat(path)); !same(got, want) {
			t.Fatal(path, got, want)
		}
		if want.Mode == api.ModeDir {
			want, _ = x.Do(list(path))
			if got := does(t, f, list(path)); !same(got, want) {
				t.Fatal(path, got, want)
			}
			continue
		}
		ino, e := names.Walk(f.volume, f.geom, path)
		answers(t, api.OK, e)
		got, e := file.Read(f.volume, f.geom, ino, 0, api.MaxFile)
		answers(t, api.OK, e)
		twin := x.Copy()
		twin.Reopen()
		a, e := twin.Do(opened(path))
		answers(t, api.OK, e)
		a, _ = twin.Do(read(a.N, 0, api.MaxFile))
		if !bytes.Equal(got, a.Bytes) {
			t.Fatal(path, "has other bytes")
		}
	}
}

// TestP21_4AsTheTree: each call tells what the tree tells, or ErrSpace, or
// ErrIO, and then nothing has changed.
func TestP21_4AsTheTree(t *testing.T) {
	told := map[api.Errno]int{}
	for seed := range int64(60) {
		source := rand.New(rand.NewSource(seed))
		g := []api.Geom{small, wide, {Groups: 1, Blocks: 16, Inodes: 8}, {Groups: 1, Blocks: 64, Inodes: 32}, {Groups: 8, Blocks: 24, Inodes: 8}}[source.Intn(5)]
		f, d := fresh(t, g)
		x := tree.New()
		for range 200 {
			c := anyCall(source)
			bytesWere := slices.Clone(c.Bytes)
			fails := source.Intn(10) == 0
			if fails {
				answers(t, api.OK, d.Fail(source.Intn(d.Blocks()), 1))
			}
			twin := x.Copy()
			want, why := twin.Do(c)
			was := now2(f)
			got, e := f.Do(c)
			told[e]++
			switch {
			case e == why && same(got, want):
				x = twin
			case (e == api.ErrSpace || e == api.ErrIO) && same(got, api.Answer{}):
				if e == api.ErrIO && !fails {
					t.Fatalf("seed %d: %v: no read failed", seed, c)
				}
				if is := now2(f); was != nil && is != nil && !sameImage(is, was) {
					t.Fatalf("seed %d: %v: something has changed", seed, c)
				}
			default:
				t.Fatalf("seed %d: %v: %v, %v; want %v, %v", seed, c, got, e, want, why)
			}
			for b := range d.Blocks() {
				answers(t, api.OK, d.Fail(b, 0))
			}
			if !bytes.Equal(c.Bytes, bytesWere) {
				t.Fatal("what was handed in has changed")
			}
			flush(t, source, f)
			if source.Intn(20) == 0 {
				held(t, f, x)
			}
		}
		held(t, f, x)
		accepted(t, now(t, f))
		if _, e := f.Do(synced()); e != api.OK {
			t.Fatal(e)
		}
		f, e := Mount(d)
		answers(t, api.OK, e)
		held(t, f, x)
	}
	for _, e := range []api.Errno{api.OK, api.ErrArg, api.ErrSpace, api.ErrIO, api.ErrName, api.ErrBig, api.ErrFD, api.ErrAbsent, api.ErrExists, api.ErrDir, api.ErrNotDir, api.ErrFull, api.ErrLoop, api.ErrLong} {
		if told[e] == 0 {
			t.Error(e, "was never told")
		}
	}
}

// now2 is the image now, without the reads that fail: nil, if one does.
func now2(f *FS) [][]byte {
	var image [][]byte
	for b := range f.Volume().Blocks() {
		bytes, e := f.Volume().Read(b)
		if e != api.OK {
			return nil
		}
		image = append(image, bytes)
	}
	return image
}

// TestP21_2TakenAway: a file that was taken away is read and written by its
// descriptors, and goes with the last of them.
func TestP21_2TakenAway(t *testing.T) {
	f, d := fresh(t, small)
	does(t, f, create("/a"), write(0, 0, []byte("hey")), opened("/a"), synced())
	empty, _ := fresh(t, small)
	for _, gone := range []api.Call{unlink("/a"), rename("/b", "/a")} {
		if gone.Kind == api.CallRename {
			does(t, f, create("/a"), write(0, 0, []byte("hey")), opened("/a"), create("/b"), closed(2))
		}
		does(t, f, gone)
		if got := leaks(t, now(t, f)); got != [3]int{0, 1, 0} {
			t.Fatal(got)
		}
		does(t, f, closed(0), write(1, 300, []byte("you")), synced(), truncate(1, 302))
		if a := does(t, f, read(1, 299, 9)); string(a.Bytes) != "\x00yo" {
			t.Fatal(a)
		}
		accepted(t, d.Image())
		does(t, f, closed(1))
		refuses(t, f, api.ErrFD, read(1, 0, 1))
		if got := leaks(t, now(t, f)); got != [3]int{} {
			t.Fatal(got)
		}
	}
	does(t, f, unlink("/a"), synced())
	if !bytes.Equal(d.Image()[1], now(t, empty)[1]) {
		t.Fatal("not all is given back")
	}
}

// TestP21_4Moves: directories into others, over others, out of others, and
// taken away behind that, held against the tree.
func TestP21_4Moves(t *testing.T) {
	f, d := fresh(t, api.Geom{Groups: 2, Blocks: 32, Inodes: 16})
	x := tree.New()
	for _, c := range []api.Call{
		mkdir("/a"), mkdir("/b"), mkdir("/a/x"), mkdir("/a/x/y"), create("/a/x/y/f"), write(0, 0, []byte("hey")),
		rename("/a/x", "/b/z"), rename("/b/z/y", "/a/y"), rmdir("/b/z"), rename("/b", "/a/y/b"), mkdir("/c"),
		rename("/c", "/a/y/b"), rename("/a", "/a/y"), rename("/a", "/a/y/b"), rename("/a/y", "/y"), rename("/y/b", "/a"), rmdir("/a"), rename("/y/f", "/f"), rmdir("/y"),
	} {
		want, why := x.Do(c)
		got, e := f.Do(c)
		if e != why || !same(got, want) {
			t.Fatal(c, got, e, want, why)
		}
		held(t, f, x)
		accepted(t, now(t, f))
	}
	does(t, f, synced())
	if l := leaks(t, d.Image()); l != [3]int{} {
		t.Fatal(l)
	}
}
