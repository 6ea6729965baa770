package file

import (
	"bytes"
	"math"
	"math/rand"
	"reflect"
	"testing"

	"bollard/api"
	"bollard/disk"
	"bollard/volume"
)

// small has 5 blocks of data in each of its three groups, one has 36 in one,
// two has 20 in each of two, big has 253.
var (
	small = api.Geom{Groups: 3, Blocks: 8, Inodes: 4}
	one   = api.Geom{Groups: 1, Blocks: 40, Inodes: 8}
	two   = api.Geom{Groups: 2, Blocks: 24, Inodes: 8}
	big   = api.Geom{Groups: 2, Blocks: 256, Inodes: 4}
)

func open(t *testing.T, image [][]byte) (*disk.Disk, *volume.Volume) {
	t.Helper()
	d, e := disk.Of(image)
	answers(t, api.OK, e)
	v, e := volume.Open(d, 64)
	answers(t, api.OK, e)
	return d, v
}

func answers(t *testing.T, want, got api.Errno) {
	t.Helper()
	if got != want {
		t.Fatalf("%v, want %v", got, want)
	}
}

// wild are numbers that are out of every range.
func wild() []int {
	return []int{math.MinInt, math.MinInt + 1, math.MinInt32, -1 << 32, -128, -2, -1,
		math.MaxInt32, 1 << 32, 1<<32 + 4, math.MaxInt - 1, math.MaxInt}
}

// state is all that a volume tells but what its blocks are now.
type state struct {
	last, kept        int
	broken            bool
	dirty, ready, way []int
	pending           [][]int
	image             [][]byte
	queue             []api.Sent
}

// stateOf reads no block by the volume: that might use up a read that fails.
func stateOf(d *disk.Disk, v *volume.Volume) state {
	out := state{
		last: v.Last(), kept: v.Kept(), broken: v.Broken(),
		dirty: v.Dirty(), ready: v.Ready(), way: v.Way(),
		image: d.Image(), queue: d.Queue(),
	}
	for b := range v.Blocks() {
		out.pending = append(out.pending, v.Pending(b))
	}
	return out
}

// now is all blocks as they are now.
func now(t *testing.T, v *volume.Volume) [][]byte {
	t.Helper()
	var image [][]byte
	for b := range v.Blocks() {
		bytes, e := v.Read(b)
		answers(t, api.OK, e)
		image = append(image, bytes)
	}
	return image
}

// ask is a call: whether what it tells beside the error is zero, and the error.
type ask func() (bool, api.Errno)

func askRead(v *volume.Volume, g api.Geom, ino, off, n int) ask {
	return func() (bool, api.Errno) {
		b, e := Read(v, g, ino, off, n)
		return len(b) == 0, e
	}
}

func askWrite(v *volume.Volume, g api.Geom, ino, off int, b []byte) ask {
	return func() (bool, api.Errno) {
		ids, e := Write(v, g, ino, off, b)
		return len(ids) == 0, e
	}
}

func askTruncate(v *volume.Volume, g api.Geom, ino, size int) ask {
	return func() (bool, api.Errno) {
		ids, e := Truncate(v, g, ino, size)
		return len(ids) == 0, e
	}
}

// stays fails unless a call answers that number and nothing beside it, and
// leaves the volume as it was.
func stays(t *testing.T, d *disk.Disk, v *volume.Volume, want api.Errno, calls ...ask) {
	t.Helper()
	for _, call := range calls {
		was := stateOf(d, v)
		zero, e := call()
		if e != want || !zero {
			t.Fatalf("%v (nothing beside it: %t), want %v", e, zero, want)
		}
		if is := stateOf(d, v); !reflect.DeepEqual(is, was) {
			t.Fatalf("the call has changed the volume: %v, was %v", is, was)
		}
	}
}

// letters are so many bytes, none of them a nought or one that a new book has.
func letters(n int) []byte {
	out := make([]byte, n)
	for i := range out {
		out[i] = byte('A' + i%57)
	}
	return out
}

// pair is a volume, and a twin that gets the patches of a book: whatever is
// written of both, they must stay the same.
type pair struct {
	t       *testing.T
	book    *book
	disk    *disk.Disk
	v       *volume.Volume
	other   *disk.Disk
	twin    *volume.Volume
	replays int // so many of the book's patches the twin has
}

// newPair has the volume get the book's patches, too.
func newPair(t *testing.T, k *book) *pair {
	t.Helper()
	p := &pair{t: t, book: k}
	p.disk, p.v = open(t, k.was)
	p.other, p.twin = open(t, k.was)
	for _, s := range k.steps {
		_, e := p.v.Change(s.block, s.off, s.bytes, s.needs)
		answers(t, api.OK, e)
	}
	p.same()
	return p
}

// same gives the twin what it lacks, and fails unless both tell the same, and
// are what the book has.
func (p *pair) same() {
	p.t.Helper()
	for ; p.replays < len(p.book.steps); p.replays++ {
		s := p.book.steps[p.replays]
		if id, e := p.twin.Change(s.block, s.off, s.bytes, s.needs); id != p.replays+1 || e != api.OK {
			p.t.Fatal(id, e)
		}
	}
	if got, want := stateOf(p.disk, p.v), stateOf(p.other, p.twin); !reflect.DeepEqual(got, want) {
		p.t.Fatalf("it tells %v\nwant %v", got, want)
	}
	for b, bytes := range now(p.t, p.v) {
		if string(bytes) != string(p.book.now[b]) {
			p.t.Fatalf("block %d: %x\nwant %x", b, bytes, p.book.now[b])
		}
	}
}

// work sends some blocks that are ready, and has some of the writes done; no
// more than so many of each.
func (p *pair) work(source *rand.Rand, most int) {
	p.t.Helper()
	for range source.Intn(most + 1) {
		if ready := p.v.Ready(); len(ready) > 0 && len(p.v.Way()) < api.MaxQueue {
			b := ready[source.Intn(len(ready))]
			answers(p.t, api.OK, p.v.Write(b))
			answers(p.t, api.OK, p.twin.Write(b))
		}
	}
	for range source.Intn(most + 1) {
		if n := len(p.v.Way()); n > 0 {
			k, ok := source.Intn(n), source.Intn(8) > 0
			if e := p.v.Complete(k, ok); ok != (e == api.OK) || p.twin.Complete(k, ok) != e {
				p.t.Fatal(e)
			}
		}
	}
}

// drain works until all is on the disk; the two stay the same all the while.
func (p *pair) drain(source *rand.Rand) {
	p.t.Helper()
	for len(p.v.Dirty()) > 0 {
		p.work(source, 2)
		p.same()
	}
}

// agrees makes a call of volumes, and its like of books: it fails unless both
// tell the same, and do the same, in whatever order blocks are written then.
func agrees(t *testing.T, k *book, call func(v *volume.Volume) ([]int, api.Errno), like func(k *book) ([]int, api.Errno)) {
	t.Helper()
	for seed := range int64(6) {
		k := &book{g: k.g, was: k.was, now: cloned(k.now), steps: k.steps}
		p := newPair(t, k)
		got, e := call(p.v)
		want, why := like(k)
		if e != why || !reflect.DeepEqual(append([]int{}, got...), append([]int{}, want...)) {
			t.Fatalf("it tells %v, %v; want %v, %v", got, e, want, why)
		}
		p.same()
		p.drain(rand.New(rand.NewSource(seed)))
	}
}

// all is every call, wrong in each of its arguments but the first two.
func all(v *volume.Volume, g api.Geom) []ask {
	return []ask{askRead(v, g, -1, -1, -1), askWrite(v, g, -1, -1, nil), askTruncate(v, g, -1, -1)}
}

func TestP15NoVolume(t *testing.T) {
	for _, v := range []*volume.Volume{nil, {}} {
		for _, g := range []api.Geom{small, {}} {
			for _, call := range all(v, g) {
				if zero, e := call(); !zero || e != api.ErrNil {
					t.Fatal(zero, e)
				}
			}
		}
	}
}

func TestP15Geometry(t *testing.T) {
	d, v := open(t, newBook(small).now)
	for _, g := range []api.Geom{
		{}, {Groups: 3, Blocks: 8}, {Groups: -3, Blocks: 8, Inodes: 4}, {Groups: 9, Blocks: 8, Inodes: 4}, {Groups: 3, Blocks: 7, Inodes: 4},
		{Groups: 3, Blocks: 8, Inodes: 5}, {Groups: 1, Blocks: 8, Inodes: 24}, {Groups: math.MaxInt, Blocks: math.MaxInt, Inodes: math.MinInt},
		{Groups: 4, Blocks: 8, Inodes: 4}, {Groups: 1, Blocks: 25, Inodes: 4}, big, // more blocks than the volume has
	} {
		stays(t, d, v, api.ErrGeom, all(v, g)...)
	}
	fewer := api.Geom{Groups: 2, Blocks: 8, Inodes: 4}
	for _, g := range []api.Geom{small, fewer} {
		if _, e := Read(v, g, 3, 0, 1); e != api.OK {
			t.Fatal(g, e)
		}
	}
}

// TestP15Inode: what Get tells, and that an inode is free, is told ahead of all
// else.
func TestP15Inode(t *testing.T) {
	k := newBook(small)
	k.now[2][3*32+1] ^= 1
	d, v := open(t, k.now)
	calls := func(v *volume.Volume, ino, n int) []ask {
		return []ask{askRead(v, small, ino, n, n), askWrite(v, small, ino, n, nil), askWrite(v, small, ino, n, letters(9)), askTruncate(v, small, ino, n)}
	}
	for _, n := range []int{-1, 0, 5, api.MaxFile, math.MaxInt} {
		for _, ino := range append(wild(), 12, 13) {
			stays(t, d, v, api.ErrInode, calls(v, ino, n)...)
		}
		stays(t, d, v, api.ErrSum, calls(v, 3, n)...)
		for _, ino := range []int{0, 1, 4, 11} { // free ones
			stays(t, d, v, api.ErrArg, calls(v, ino, n)...)
		}
		for which := range calls(v, 8, n) {
			d, v := open(t, k.now)
			answers(t, api.OK, d.Fail(18, 1))
			stays(t, d, v, api.ErrIO, calls(v, 8, n)[which])
		}
	}
}

// TestP15Directories: their bytes are a file's, too, but a size that none may
// have is Put's error.
func TestP15Directories(t *testing.T) {
	d, v := open(t, newBook(small).now)
	ids, e := Write(v, small, 2, 0, letters(128))
	if len(ids) != 2 || e != api.OK {
		t.Fatal(ids, e)
	}
	if b, e := Read(v, small, 2, 0, 999); !bytes.Equal(b, letters(128)) || e != api.OK {
		t.Fatal(b, e)
	}
	stays(t, d, v, api.ErrArg, askWrite(v, small, 2, 0, letters(129)), askWrite(v, small, 2, 200, letters(1)),
		askTruncate(v, small, 2, 5), askTruncate(v, small, 2, 129))
	if ids, e := Truncate(v, small, 2, 0); len(ids) != 1 || e != api.OK {
		t.Fatal(ids, e)
	}
}
