package vfs

import (
	"bytes"
	"math"
	"math/rand"
	"reflect"
	"slices"
	"testing"

	"bollard/api"
	"bollard/disk"
)

// everyCall is calls of all kinds that have no errors in the town's volume, each
// of them by itself.
func everyCall() []api.Call {
	return []api.Call{
		mkdir("/x"), mkdir("/d/e/x"), create("/x"), create("/d/e/x"), opened("/d/f"), unlink("/a"), unlink("/d/f"),
		rmdir("/e"), rmdir("/d/e"), link("/a", "/d/x"), rename("/a", "/x"), rename("/a", "/b"), rename("/a", "/d/e/x"), rename("/d/f", "/a"),
		rename("/d", "/x"), rename("/d", "/e/x"), rename("/d/e", "/x"), rename("/d/e", "/e"), rename("/d", "/e"),
		stat("/d/e"), list("/d"),
	}
}

// failing makes a call on a volume that was just mounted, of which one read of
// a block fails: it tells ErrIO, and nothing has changed, or what it tells
// without that.
func failing(t *testing.T, d *disk.Disk, ahead []api.Call, c api.Call) {
	t.Helper()
	begin := func() (*FS, *disk.Disk) {
		copied := d.Copy()
		f, e := Mount(copied)
		answers(t, api.OK, e)
		return f, copied
	}
	good, _ := begin()
	does(t, good, ahead...)
	want := does(t, good, c)
	failed := 0
	for b := range d.Blocks() {
		f, its := begin()
		does(t, f, ahead...)
		last, files, dirty := f.Volume().Last(), f.files, f.Volume().Dirty()
		answers(t, api.OK, its.Fail(b, 1))
		a, e := f.Do(c)
		if e != api.OK {
			failed++
			answers(t, api.ErrIO, e)
			if !reflect.DeepEqual(a, api.Answer{}) || f.Volume().Last() != last || f.files != files || !slices.Equal(f.Volume().Dirty(), dirty) {
				t.Fatalf("%v, block %d: something has changed", c, b)
			}
			a, e = f.Do(c)
		}
		answers(t, api.OK, its.Fail(b, 0))
		if answers(t, api.OK, e); !same(a, want) || f.files != good.files || !sameImage(now(t, f), now(t, good)) {
			t.Fatalf("%v, block %d: %v, want %v", c, b, a, want)
		}
	}
	if failed == 0 {
		t.Fatal(c, "reads nothing")
	}
}

// TestP21_2ReadsFail: whatever read of a call fails.
func TestP21_2ReadsFail(t *testing.T) {
	for _, g := range []api.Geom{{Groups: 1, Blocks: 32, Inodes: 16}, wide} {
		f, d := fresh(t, g)
		does(t, f, town()...)
		does(t, f, opened("/d/f"), write(0, 0, make([]byte, 900)), synced())
		for _, c := range everyCall() {
			failing(t, d, nil, c)
		}
		ahead := []api.Call{opened("/d/f")}
		for _, c := range []api.Call{read(0, 100, 800), write(0, 800, make([]byte, 300)), truncate(0, 100), truncate(0, 600)} {
			failing(t, d, ahead, c)
		}
		does(t, f, link("/d/f", "/g"), synced())
	}
}

// pushOut reads other blocks, until none of the first ones lies in a buffer.
func pushOut(t *testing.T, f *FS) {
	t.Helper()
	for b := range api.MaxCache {
		_, e := f.Volume().Read(256 + b)
		answers(t, api.OK, e)
	}
}

// TestP21_2CloseFails: a descriptor has its file still, if that can't be looked
// at, or not be cleared.
func TestP21_2CloseFails(t *testing.T) {
	f, d := fresh(t, api.Geom{Groups: 8, Blocks: 40, Inodes: 16})
	does(t, f, create("/a"), write(0, 0, make([]byte, 700)), unlink("/a"), synced())
	its, e := f.get(3)
	answers(t, api.OK, e)
	for _, b := range []int{1, 2, its.Single} { // the header, the inode's block, its indirect block
		pushOut(t, f)
		answers(t, api.OK, d.Fail(b, 1))
		last := f.Volume().Last()
		_, e := f.Do(closed(0))
		answers(t, api.ErrIO, e)
		if f.Volume().Last() != last || !slices.Equal(f.Open(), []int{3}) {
			t.Fatal(b, f.Volume().Last(), last, f.Open())
		}
		if a := does(t, f, read(0, 600, 999)); a.N != 100 {
			t.Fatal(a)
		}
	}
	does(t, f, closed(0))
	if got := leaks(t, now(t, f)); got != [3]int{} || len(f.Open()) != 0 {
		t.Fatal(got, f.Open())
	}

	does(t, f, create("/a"), opened("/a"), unlink("/a"), synced())
	pushOut(t, f)
	for b := range d.Blocks() {
		answers(t, api.OK, d.Fail(b, 1))
	}
	does(t, f, closed(1)) // another one has the file, so that nothing is asked of it
	if !slices.Equal(f.Open(), []int{3}) {
		t.Fatal(f.Open())
	}
}

// TestP21_2ErrorsAheadOfReads: an error that is told without a read comes ahead
// of one of a read.
func TestP21_2ErrorsAheadOfReads(t *testing.T) {
	f, d := fresh(t, small)
	does(t, f, mkdir("/d"), create("/d/a"), synced())
	for _, c := range []struct {
		want api.Errno
		call api.Call
	}{
		{api.ErrExists, mkdir("/")}, {api.ErrName, mkdir("x")}, {api.ErrExists, create("/")}, {api.ErrArg, unlink("/")}, {api.ErrArg, rmdir("/")},
		{api.ErrArg, rename("/", "/")}, {api.ErrName, rename("x", "/")}, {api.ErrArg, link("/", "/")}, {api.ErrFD, closed(0)}, {api.ErrFD, fsync(3)}, {api.ErrArg, api.Call{}},
	} {
		f, e := Mount(d)
		answers(t, api.OK, e)
		for b := range d.Blocks() {
			answers(t, api.OK, d.Fail(b, 1))
		}
		_, e = f.Do(c.call)
		answers(t, c.want, e)
		answers(t, api.OK, d.Crash(nil))
	}
	f, d = fresh(t, api.Geom{Groups: 8, Blocks: 40, Inodes: 16})
	does(t, f, create("/a"), synced())
	for _, c := range []struct {
		want api.Errno
		call api.Call
	}{
		{api.ErrArg, read(0, -1, 0)}, {api.ErrArg, read(0, 0, -1)}, {api.ErrArg, write(0, -1, nil)}, {api.ErrArg, truncate(0, -1)},
		{api.ErrBig, write(0, api.MaxFile, []byte{1})}, {api.ErrBig, write(0, math.MaxInt, []byte{1})}, {api.ErrBig, truncate(0, api.MaxFile+1)},
	} {
		pushOut(t, f)
		answers(t, api.OK, d.Fail(2, 1))
		_, e := f.Do(c.call)
		answers(t, c.want, e)
		_, e = f.Do(read(0, 0, 1)) // it would have failed
		answers(t, api.ErrIO, e)
	}
}

// pressed is a file system with more blocks than buffers, so that reads fail in
// the midst of calls.
func pressed(t *testing.T, source *rand.Rand) (*FS, *disk.Disk) {
	t.Helper()
	f, d := fresh(t, api.Geom{Groups: 8, Blocks: 40, Inodes: 16})
	for range 40 {
		c := anyCall(source)
		if c.Kind == api.CallSync {
			continue
		}
		f.Do(c)
	}
	does(t, f, synced())
	return f, d
}

// TestP21_2ReadsFailAnywhere: with few buffers and many calls.
func TestP21_2ReadsFailAnywhere(t *testing.T) {
	failed := 0
	for seed := range int64(6) {
		source := rand.New(rand.NewSource(seed))
		f, d := pressed(t, source)
		for range 300 {
			c := anyCall(source)
			was, files, last := now(t, f), f.files, f.Volume().Last()
			for range 1 + source.Intn(3) {
				answers(t, api.OK, d.Fail(source.Intn(d.Blocks()), 1))
			}
			_, e := f.Do(c)
			for b := range d.Blocks() {
				answers(t, api.OK, d.Fail(b, 0))
			}
			if e == api.OK {
				continue
			}
			if c.Kind != api.CallSync && c.Kind != api.CallFsync && f.Volume().Last() != last {
				t.Fatal(seed, c, e)
			}
			if f.files != files || !sameImage(now(t, f), was) {
				t.Fatal(seed, c, e)
			}
			if e == api.ErrIO {
				failed++
			}
		}
	}
	if failed < 20 {
		t.Fatal(failed)
	}
}

// TestP21_6Synced: behind a CallSync or a CallFsync the disk has the image now.
func TestP21_6Synced(t *testing.T) {
	for seed := range int64(12) {
		source := rand.New(rand.NewSource(seed))
		f, d := fresh(t, wide)
		does(t, f, create("/z"))
		for range 150 {
			c := anyCall(source)
			_, e := f.Do(c)
			if source.Intn(3) == 0 {
				flush(t, source, f)
			}
			if source.Intn(9) > 0 {
				continue
			}
			c = synced()
			if len(f.Open()) > 0 && source.Intn(2) == 0 {
				c = fsync(slices.IndexFunc(f.files[:], func(ino int) bool { return ino != 0 }))
			}
			var a api.Answer
			if a, e = f.Do(c); e != api.OK || !same(a, api.Answer{}) {
				t.Fatal(seed, c, a, e)
			}
			if !sameImage(d.Image(), now(t, f)) || len(d.Queue()) > 0 || len(f.Volume().Dirty()) > 0 {
				t.Fatal(seed, "not all is on the disk")
			}
		}
	}
}

// TestP21_6SyncFails: a block can't be read while it is written: ErrIO, and the
// next one goes on.
func TestP21_6SyncFails(t *testing.T) {
	f, d := fresh(t, api.Geom{Groups: 8, Blocks: 40, Inodes: 16})
	does(t, f, create("/a"), synced())
	does(t, f, write(0, 0, bytes.Repeat([]byte{7}, 9000)), mkdir("/d"), synced())
	does(t, f, write(0, 0, bytes.Repeat([]byte{8}, 9000)))
	pushOut(t, f)
	dirty := f.Volume().Dirty()
	answers(t, api.OK, d.Fail(dirty[3], 2))
	for range 2 {
		_, e := f.Do(synced())
		answers(t, api.ErrIO, e)
		accepted(t, d.Image())
	}
	does(t, f, fsync(0))
	if !sameImage(d.Image(), now(t, f)) {
		t.Fatal("not all is on the disk")
	}
}
