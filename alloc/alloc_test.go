package alloc

import (
	"bytes"
	"math"
	"reflect"
	"slices"
	"testing"

	"bollard/api"
	"bollard/disk"
	"bollard/volume"
)

// Where a header's two rows of bits begin, as chapter 3 tells it.
const (
	inodesAt = 4
	blocksAt = 12
)

// small has 5 blocks of data and 4 inodes in each of its three groups.
var small = api.Geom{Groups: 3, Blocks: 8, Inodes: 4}

// set sets bits of a header, counted from a place of it on.
func set(header []byte, at int, bits ...int) {
	for _, bit := range bits {
		header[at+bit/8] |= 1 << (bit % 8)
	}
}

// upTo is 0, 1, .. n-1.
func upTo(n int) []int {
	var out []int
	for i := range n {
		out = append(out, i)
	}
	return out
}

// newImage is a volume's blocks as far as alloc reads them: headers, of which
// the first one has the inodes 0 to 2 and a block of data allocated.
func newImage(g api.Geom) [][]byte {
	image := make([][]byte, g.Groups*g.Blocks)
	for b := range image {
		image[b] = make([]byte, api.Size)
	}
	for group := range g.Groups {
		header := image[group*g.Blocks+1]
		copy(header, []byte{'h', 'd', byte(group)})
		set(header, blocksAt, upTo(2+g.Inodes/4)...)
	}
	set(image[1], inodesAt, 0, 1, 2)
	set(image[1], blocksAt, 2+g.Inodes/4)
	return image
}

func open(t *testing.T, image [][]byte, buffers int) (*disk.Disk, *volume.Volume) {
	t.Helper()
	d, e := disk.Of(image)
	answers(t, api.OK, e)
	v, e := volume.Open(d, buffers)
	answers(t, api.OK, e)
	return d, v
}

func fresh(t *testing.T, g api.Geom, buffers int) (*disk.Disk, *volume.Volume) {
	t.Helper()
	return open(t, newImage(g), buffers)
}

func answers(t *testing.T, want, got api.Errno) {
	t.Helper()
	if got != want {
		t.Fatalf("%v, want %v", got, want)
	}
}

// wild are numbers that are out of every range.
func wild() []int {
	return []int{math.MinInt, math.MinInt + 1, math.MinInt32, -1 << 32, -256, -3, -2, -1,
		1 << 16, math.MaxInt32, 1 << 32, 1<<32 + 4, math.MaxInt - 1, math.MaxInt}
}

// told is all that a volume tells but what its blocks are now.
type told struct {
	last, kept        int
	broken            bool
	dirty, ready, way []int
	pending           [][]int
	image             [][]byte
	queue             []api.Sent
}

// tell reads no block by the volume: that might use up a read that fails.
func tell(d *disk.Disk, v *volume.Volume) told {
	out := told{
		last: v.Last(), kept: v.Kept(), broken: v.Broken(),
		dirty: v.Dirty(), ready: v.Ready(), way: v.Way(),
		image: d.Image(), queue: d.Queue(),
	}
	for b := range v.Blocks() {
		out.pending = append(out.pending, v.Pending(b))
	}
	return out
}

// stays fails unless a call answers that number and nothing beside it, and
// leaves the volume as it was.
func stays(t *testing.T, d *disk.Disk, v *volume.Volume, want api.Errno, call func() (bool, api.Errno)) {
	t.Helper()
	was := tell(d, v)
	zero, e := call()
	if e != want || !zero {
		t.Fatalf("%v (nothing beside it: %t), want %v", e, zero, want)
	}
	if is := tell(d, v); !reflect.DeepEqual(is, was) {
		t.Fatalf("the call has changed the volume: %v, was %v", is, was)
	}
}

// The calls, as what is told but the error is zero, and the error.

func askHeader(v *volume.Volume, g api.Geom, group int) func() (bool, api.Errno) {
	return func() (bool, api.Errno) {
		h, e := Header(v, g, group)
		return h == api.Group{}, e
	}
}

func askBlock(v *volume.Volume, g api.Geom, near int, needs ...int) func() (bool, api.Errno) {
	return func() (bool, api.Errno) {
		b, id, e := Block(v, g, near, needs)
		return b == 0 && id == 0, e
	}
}

func askInode(v *volume.Volume, g api.Geom, near int, dir bool) func() (bool, api.Errno) {
	return func() (bool, api.Errno) {
		ino, id, e := Inode(v, g, near, dir)
		return ino == 0 && id == 0, e
	}
}

func askFreeBlock(v *volume.Volume, g api.Geom, b int, needs ...int) func() (bool, api.Errno) {
	return func() (bool, api.Errno) {
		id, e := FreeBlock(v, g, b, needs)
		return id == 0, e
	}
}

func askFreeInode(v *volume.Volume, g api.Geom, ino int, needs ...int) func() (bool, api.Errno) {
	return func() (bool, api.Errno) {
		id, e := FreeInode(v, g, ino, needs)
		return id == 0, e
	}
}

func askHasBlock(v *volume.Volume, g api.Geom, b int) func() (bool, api.Errno) {
	return func() (bool, api.Errno) {
		has, e := HasBlock(v, g, b)
		return !has, e
	}
}

func askHasInode(v *volume.Volume, g api.Geom, ino int) func() (bool, api.Errno) {
	return func() (bool, api.Errno) {
		has, e := HasInode(v, g, ino)
		return !has, e
	}
}

func askRoom(v *volume.Volume, g api.Geom) func() (bool, api.Errno) {
	return func() (bool, api.Errno) {
		blocks, inodes, e := Room(v, g)
		return blocks == 0 && inodes == 0, e
	}
}

// all is every call with a number, and needs.
func all(v *volume.Volume, g api.Geom, n int, needs ...int) []func() (bool, api.Errno) {
	return []func() (bool, api.Errno){
		askHeader(v, g, n), askBlock(v, g, n, needs...), askInode(v, g, n, false), askInode(v, g, n, true),
		askFreeBlock(v, g, n, needs...), askFreeInode(v, g, n, needs...), askHasBlock(v, g, n), askHasInode(v, g, n),
		askRoom(v, g),
	}
}

// gives fails unless a call gave that, by the last patch.
func gives(t *testing.T, v *volume.Volume, want int) func(got, id int, e api.Errno) {
	t.Helper()
	last := v.Last()
	return func(got, id int, e api.Errno) {
		t.Helper()
		if got != want || id != last+1 || v.Last() != id || e != api.OK {
			t.Fatalf("%d by patch %d of %d, %v; want %d by patch %d", got, id, v.Last(), e, want, last+1)
		}
	}
}

// takes fails unless a call has freed something by the last patch.
func takes(t *testing.T, v *volume.Volume) func(id int, e api.Errno) {
	t.Helper()
	last := v.Last()
	return func(id int, e api.Errno) {
		t.Helper()
		if id != last+1 || v.Last() != id || e != api.OK {
			t.Fatalf("patch %d of %d, %v; want patch %d", id, v.Last(), e, last+1)
		}
	}
}

func has(t *testing.T, v *volume.Volume, g api.Geom, blocks, inodes int) {
	t.Helper()
	if b, i, e := Room(v, g); b != blocks || i != inodes || e != api.OK {
		t.Fatalf("room for %d blocks, %d inodes, %v; want %d, %d", b, i, e, blocks, inodes)
	}
}

func TestExample(t *testing.T) {
	g := api.Geom{Groups: 1, Blocks: 32, Inodes: 8}
	_, v := fresh(t, g, 4)
	gives(t, v, 5)(Block(v, g, 0, nil))
	gives(t, v, 3)(Inode(v, g, 0, false))
	gives(t, v, 4)(Inode(v, g, 0, true))
}

func TestP11_1Header(t *testing.T) {
	g := api.Geom{Groups: api.MaxGroups, Blocks: 20, Inodes: 12}
	image := newImage(g)
	var want [api.MaxGroups]api.Group
	for n := range want {
		want[n].Number = n
		header := image[n*20+1]
		for i := range want[n].Inodes {
			header[inodesAt+i] = byte(n*40 + i)
			want[n].Inodes[i] = byte(n*40 + i)
		}
		for i := range want[n].Blocks {
			header[blocksAt+i] = byte(n*40 + 8 + i)
			want[n].Blocks[i] = byte(n*40 + 8 + i)
		}
	}
	_, v := open(t, image, 3)
	for n := range want {
		if h, e := Header(v, g, n); h != want[n] || e != api.OK {
			t.Fatalf("group %d: %v, %v", n, h, e)
		}
	}
	want[7].Inodes[3] = 0x5a
	if _, e := v.Change(141, inodesAt+3, []byte{0x5a}, nil); e != api.OK {
		t.Fatal(e)
	}
	if h, e := Header(v, g, 7); h != want[7] || e != api.OK {
		t.Fatalf("it is not told as it is now: %v, %v", h, e)
	}
}

func TestP11_1NoSuchGroup(t *testing.T) {
	d, v := fresh(t, small, 1)
	for _, n := range append(wild(), 3, 4, 7, 8) {
		stays(t, d, v, api.ErrArg, askHeader(v, small, n))
	}
	big := api.Geom{Groups: api.MaxGroups, Blocks: api.MaxBlocks, Inodes: api.MaxInodes}
	d, v = fresh(t, big, 1)
	if h, e := Header(v, big, 7); h.Number != 7 || e != api.OK {
		t.Fatal(h, e)
	}
	stays(t, d, v, api.ErrArg, askHeader(v, big, 8))
}

func TestP11_1HeaderThatIsNone(t *testing.T) {
	for _, x := range []struct {
		why  api.Errno
		at   int
		bits []byte
	}{
		{api.ErrMagic, 0, []byte{0, 0}}, {api.ErrMagic, 0, []byte("dh")}, {api.ErrMagic, 1, []byte{'e'}},
		{api.ErrForm, 2, []byte{8}}, {api.ErrForm, 2, []byte{255}}, {api.ErrForm, 3, []byte{1}},
		{api.ErrForm, 44, []byte{1}}, {api.ErrForm, 127, []byte{128}},
		{api.ErrForm, 2, []byte{0}}, {api.ErrForm, 2, []byte{2}}, // another group's header
	} {
		image := newImage(small)
		copy(image[9][x.at:], x.bits)
		d, v := open(t, image, 2)
		for _, call := range []func() (bool, api.Errno){
			askHeader(v, small, 1), askBlock(v, small, 1, -1), askInode(v, small, 1, false), askInode(v, small, 1, true), askInode(v, small, 0, true),
			askFreeBlock(v, small, 11, -1), askFreeInode(v, small, 4, -1), askHasBlock(v, small, 15), askHasInode(v, small, 7), askRoom(v, small),
		} {
			stays(t, d, v, x.why, call)
		}
		if h, e := Header(v, small, 0); h.Number != 0 || e != api.OK {
			t.Fatal(h, e)
		}
		if _, e := HasBlock(v, small, 23); e != api.OK { // of another group
			t.Fatal(e)
		}
	}
}

func TestP11_1ReadFails(t *testing.T) {
	for n := range small.Groups {
		header, block, ino := n*8+1, n*8+7, n*4+3
		for at := range all(nil, small, 0) {
			d, v := fresh(t, small, 1)
			v.Read(0) // so that no header has a buffer
			d.Fail(header, 1)
			call := []func() (bool, api.Errno){
				askHeader(v, small, n), askBlock(v, small, n, -1), askInode(v, small, n, false), askInode(v, small, 0, true),
				askFreeBlock(v, small, block, -1), askFreeInode(v, small, ino, -1), askHasBlock(v, small, block), askHasInode(v, small, ino),
				askRoom(v, small),
			}[at]
			stays(t, d, v, api.ErrIO, call)
			if _, e := Header(v, small, n); e != api.OK {
				t.Fatal("no read of this header has failed:", e)
			}
		}
	}
}

// TestNone: a volume that no call made.
func TestNone(t *testing.T) {
	for _, v := range []*volume.Volume{nil, {}} {
		for _, g := range []api.Geom{small, {}, {Groups: -1, Blocks: math.MaxInt, Inodes: 3}} { // ErrNil comes first
			for _, n := range append(wild(), 0, 1, 3, 5) {
				for _, call := range all(v, g, n, n) {
					if zero, e := call(); e != api.ErrNil || !zero {
						t.Fatalf("%v, %v", zero, e)
					}
				}
			}
		}
	}
}

func TestGeometry(t *testing.T) {
	image := newImage(small)
	for _, n := range [][3]int{
		{}, {0, 8, 4}, {9, 8, 4}, {-1, -8, -4}, {1, 7, 4}, {1, 257, 4}, {1, 8, 0}, {1, 8, 5}, {1, 8, 24}, {1, 16, 68},
		{math.MaxInt, math.MaxInt, math.MaxInt}, {math.MinInt, math.MinInt, math.MinInt}, {1, math.MaxInt, 4}, {math.MaxInt, 8, 4},
		{4, 8, 4}, {3, 9, 4}, {1, 25, 4}, {8, 256, 64}, // more blocks than the volume has
	} {
		d, v := open(t, image, 2)
		g := api.Geom{Groups: n[0], Blocks: n[1], Inodes: n[2]}
		for _, n := range append(wild(), 0, 1, 3, 5) { // ErrGeom comes ahead of all but ErrNil
			for _, call := range all(v, g, n, n) {
				stays(t, d, v, api.ErrGeom, call)
			}
		}
	}
}

// TestMoreBlocks: a volume may have more than the geometry; they play no part.
func TestMoreBlocks(t *testing.T) {
	g := api.Geom{Groups: 1, Blocks: 8, Inodes: 4}
	_, v := open(t, newImage(small), 2)
	has(t, v, g, 4, 1)
	for b := 4; b < 8; b++ {
		gives(t, v, b)(Block(v, g, 0, nil))
	}
	_, _, e := Block(v, g, 0, nil)
	answers(t, api.ErrSpace, e)
	_, e = HasBlock(v, g, 11)
	answers(t, api.ErrBlock, e)
	_, e = HasInode(v, g, 4)
	answers(t, api.ErrInode, e)
}

func TestP11_2BlocksGoingRound(t *testing.T) {
	for near, want := range [][]int{
		{4, 5, 6, 7, 11, 12, 13, 14, 15, 19, 20, 21, 22, 23},
		{11, 12, 13, 14, 15, 19, 20, 21, 22, 23, 4, 5, 6, 7},
		{19, 20, 21, 22, 23, 4, 5, 6, 7, 11, 12, 13, 14, 15},
	} {
		d, v := fresh(t, small, 2)
		for _, b := range want {
			gives(t, v, b)(Block(v, small, near, nil))
		}
		stays(t, d, v, api.ErrSpace, askBlock(v, small, near))
		stays(t, d, v, api.ErrSpace, askBlock(v, small, near, -1)) // ahead of what Change tells
		has(t, v, small, 0, 9)
	}
}

func TestP11_2InodesGoingRound(t *testing.T) {
	for near, want := range [][]int{
		{3, 4, 5, 6, 7, 8, 9, 10, 11},
		{4, 5, 6, 7, 8, 9, 10, 11, 3},
		{8, 9, 10, 11, 3, 4, 5, 6, 7},
	} {
		d, v := fresh(t, small, 2)
		for _, ino := range want {
			gives(t, v, ino)(Inode(v, small, near, false))
		}
		stays(t, d, v, api.ErrSpace, askInode(v, small, near, false))
		stays(t, d, v, api.ErrSpace, askInode(v, small, near, true))
		has(t, v, small, 14, 0)
	}
}

func TestP11_2DirectoriesWhereMostAreLeft(t *testing.T) {
	for near, want := range [][]int{
		{4, 8, 5, 9, 6, 10, 3, 7, 11}, // 1, 4, 4 are left; where as many are, the first from near on
		{4, 8, 5, 9, 6, 10, 7, 11, 3},
		{8, 4, 9, 5, 10, 6, 11, 3, 7},
	} {
		d, v := fresh(t, small, 2)
		for _, ino := range want {
			gives(t, v, ino)(Inode(v, small, near, true))
		}
		stays(t, d, v, api.ErrSpace, askInode(v, small, near, true))
	}
}

func TestP11_2NearIsNoGroup(t *testing.T) {
	d, v := fresh(t, small, 2)
	d.Fail(1, 1)
	for _, near := range append(wild(), 3, 4, 8) {
		for _, call := range []func() (bool, api.Errno){
			askBlock(v, small, near), askBlock(v, small, near, -1), askInode(v, small, near, false), askInode(v, small, near, true),
		} {
			stays(t, d, v, api.ErrArg, call)
		}
	}
	_, e := v.Read(1)
	answers(t, api.ErrIO, e) // no header was read
}

// TestP11_2HeadersBehindAreNotRead: what stands behind the group that gives
// plays no part, unless a directory's inode is asked for.
func TestP11_2HeadersBehindAreNotRead(t *testing.T) {
	image := newImage(small)
	image[1][0], image[17][2] = 0, 0
	d, v := open(t, image, 2)
	for b := 11; b < 16; b++ {
		gives(t, v, b)(Block(v, small, 1, nil))
	}
	for ino := 4; ino < 8; ino++ {
		stays(t, d, v, api.ErrMagic, askInode(v, small, 1, true))
		gives(t, v, ino)(Inode(v, small, 1, false))
	}
	stays(t, d, v, api.ErrForm, askBlock(v, small, 1))
	stays(t, d, v, api.ErrForm, askInode(v, small, 1, false))
	stays(t, d, v, api.ErrMagic, askBlock(v, small, 0))
	stays(t, d, v, api.ErrForm, askBlock(v, small, 2))
}

// TestP11_2AllHeadersFirst: for a directory they are read from 0 on, whatever
// is near, and the first error is told.
func TestP11_2AllHeadersFirst(t *testing.T) {
	for near := range 3 {
		image := newImage(small)
		image[9][0] = 0
		d, v := open(t, image, 1)
		d.Fail(1, 1)
		d.Fail(17, 1)
		stays(t, d, v, api.ErrIO, askInode(v, small, near, true))
		stays(t, d, v, api.ErrMagic, askInode(v, small, near, true))
		stays(t, d, v, api.ErrMagic, askRoom(v, small))
		_, e := v.Read(17)
		answers(t, api.ErrIO, e) // behind the first error none was read
	}
}

// TestP11_2HeadersAreReadOnce: a header whose buffer went while the others
// were read is not read again.
func TestP11_2HeadersAreReadOnce(t *testing.T) {
	for _, frozen := range []bool{false, true} {
		g := api.Geom{Groups: 2, Blocks: 8, Inodes: 4}
		image := newImage(g)
		image[9][inodesAt] = 15
		d, v := open(t, image, 1)
		v.Read(1)
		d.Fail(1, 1)
		if !frozen {
			gives(t, v, 3)(Inode(v, g, 0, true))
			continue
		}
		answers(t, api.OK, v.Freeze(4))
		stays(t, d, v, api.ErrIO, askInode(v, g, 0, true)) // volume.Change has to read it
		gives(t, v, 3)(Inode(v, g, 0, true))
	}
}

// TestP11_2NeverGiven: neither the inodes 0 and 1, nor blocks that are not
// data, nor bits past the geometry's end, though their bits are not set.
func TestP11_2NeverGiven(t *testing.T) {
	image := newImage(small)
	for _, b := range []int{1, 9, 17} {
		clear(image[b][inodesAt:])
	}
	d, v := open(t, image, 2)
	has(t, v, small, 15, 10)
	for _, ino := range []int{2, 3, 4, 5, 6, 7, 8, 9, 10, 11} {
		gives(t, v, ino)(Inode(v, small, 0, false))
	}
	for _, b := range []int{19, 20, 21, 22, 23, 3, 4, 5, 6, 7, 11, 12, 13, 14, 15} {
		gives(t, v, b)(Block(v, small, 2, nil))
	}
	has(t, v, small, 0, 0)
	stays(t, d, v, api.ErrSpace, askBlock(v, small, 0))
	for _, dir := range []bool{false, true} {
		stays(t, d, v, api.ErrSpace, askInode(v, small, 0, dir))
	}
}

// TestP11_2NeverCounted: the inodes 0 and 1 don't count where most are asked
// for, either: a group with these alone has nothing to give.
func TestP11_2NeverCounted(t *testing.T) {
	image := newImage(small)
	image[1][inodesAt], image[9][inodesAt], image[17][inodesAt] = 12, 15, 7
	d, v := open(t, image, 2)
	gives(t, v, 11)(Inode(v, small, 0, true))
	stays(t, d, v, api.ErrSpace, askInode(v, small, 0, true))
	stays(t, d, v, api.ErrSpace, askInode(v, small, 0, false))
}

// TestP11_2Edges: the greatest geometry, up to its last block and inode.
func TestP11_2Edges(t *testing.T) {
	g := api.Geom{Groups: api.MaxGroups, Blocks: api.MaxBlocks, Inodes: api.MaxInodes}
	image := newImage(g)
	for n := range g.Groups {
		header := image[n*256+1]
		set(header, inodesAt, upTo(64)...)
		set(header, blocksAt, upTo(256)...)
	}
	image[7*256+1][blocksAt+31] = 0x7f
	image[7*256+1][inodesAt+7] = 0x7f
	d, v := open(t, image, 8)
	has(t, v, g, 1, 1)
	gives(t, v, 2047)(Block(v, g, 0, nil))
	gives(t, v, 511)(Inode(v, g, 0, true))
	has(t, v, g, 0, 0)
	stays(t, d, v, api.ErrSpace, askBlock(v, g, 7))
	stays(t, d, v, api.ErrSpace, askInode(v, g, 7, false))
	takes(t, v)(FreeInode(v, g, 511, nil))
	takes(t, v)(FreeBlock(v, g, 2047, nil))
	gives(t, v, 511)(Inode(v, g, 6, false))
	has(t, v, g, 1, 0)
	takes(t, v)(FreeBlock(v, g, 18, nil))
	has(t, v, g, 2, 0)
	stays(t, d, v, api.ErrBlock, askFreeBlock(v, g, 17))
	stays(t, d, v, api.ErrBlock, askFreeBlock(v, g, 2048))
	stays(t, d, v, api.ErrInode, askFreeInode(v, g, 512))
}

func TestP11_3Free(t *testing.T) {
	_, v := fresh(t, small, 2)
	for _, b := range []int{4, 5, 6, 7, 11, 12} {
		gives(t, v, b)(Block(v, small, 0, nil))
	}
	for _, b := range []int{7, 3, 12, 5} {
		takes(t, v)(FreeBlock(v, small, b, nil))
		if set, e := HasBlock(v, small, b); set || e != api.OK {
			t.Fatal(b, set, e)
		}
	}
	has(t, v, small, 12, 9)
	for _, ino := range []int{3, 4} {
		gives(t, v, ino)(Inode(v, small, 0, false))
	}
	for _, ino := range []int{4, 3} {
		takes(t, v)(FreeInode(v, small, ino, nil))
		if set, e := HasInode(v, small, ino); set || e != api.OK {
			t.Fatal(ino, set, e)
		}
	}
	has(t, v, small, 12, 9)
}

func TestP11_3FreeRefuses(t *testing.T) {
	d, v := fresh(t, small, 1)
	d.Fail(1, 1)
	d.Fail(9, 1)
	d.Fail(17, 1)
	for _, b := range append(wild(), 0, 1, 2, 8, 9, 10, 16, 17, 18, 24, 25, 64) { // no data, ahead of Header's error
		stays(t, d, v, api.ErrBlock, askFreeBlock(v, small, b))
		stays(t, d, v, api.ErrBlock, askHasBlock(v, small, b))
	}
	for _, ino := range append(wild(), 0, 1, 2, 12, 13, 64) {
		stays(t, d, v, api.ErrInode, askFreeInode(v, small, ino))
	}
	for _, header := range []int{1, 9, 17} {
		_, e := v.Read(header)
		answers(t, api.ErrIO, e) // none was read
	}
	for _, b := range []int{4, 7, 11, 15, 19, 23} {
		stays(t, d, v, api.ErrFree, askFreeBlock(v, small, b))
		stays(t, d, v, api.ErrFree, askFreeBlock(v, small, b, -1)) // ahead of what Change tells
	}
	for _, ino := range []int{3, 4, 7, 8, 11} {
		stays(t, d, v, api.ErrFree, askFreeInode(v, small, ino))
		stays(t, d, v, api.ErrFree, askFreeInode(v, small, ino, -1))
	}
	takes(t, v)(FreeBlock(v, small, 3, nil))
	stays(t, d, v, api.ErrFree, askFreeBlock(v, small, 3)) // what is free already
}

func TestP11_4Has(t *testing.T) {
	d, v := fresh(t, small, 2)
	for b := range 24 {
		if b%8 < 3 {
			stays(t, d, v, api.ErrBlock, askHasBlock(v, small, b))
			continue
		}
		if set, e := HasBlock(v, small, b); set != (b == 3) || e != api.OK {
			t.Fatal(b, set, e)
		}
	}
	for ino := range 12 { // those that can't be freed are told, too
		if set, e := HasInode(v, small, ino); set != (ino < 3) || e != api.OK {
			t.Fatal(ino, set, e)
		}
	}
	for _, n := range append(wild(), 24, 25) {
		stays(t, d, v, api.ErrBlock, askHasBlock(v, small, n))
	}
	for _, n := range append(wild(), 12, 13) {
		stays(t, d, v, api.ErrInode, askHasInode(v, small, n))
	}
	if v.Last() != 0 {
		t.Fatal("something was patched")
	}
	image := newImage(small)
	image[1][inodesAt] = 0
	_, v = open(t, image, 2)
	for ino := range 3 {
		if set, e := HasInode(v, small, ino); set || e != api.OK { // the bit is told, whatever it should be
			t.Fatal(ino, set, e)
		}
	}
}

func TestP11_4Room(t *testing.T) {
	_, v := fresh(t, small, 2)
	has(t, v, small, 14, 9)
	for n := range 14 {
		if _, _, e := Block(v, small, n%3, nil); e != api.OK {
			t.Fatal(e)
		}
		has(t, v, small, 13-n, 9)
	}
	for n := range 9 {
		if _, _, e := Inode(v, small, n%3, n%2 == 0); e != api.OK {
			t.Fatal(e)
		}
		has(t, v, small, 0, 8-n)
	}
	g := api.Geom{Groups: api.MaxGroups, Blocks: api.MaxBlocks, Inodes: api.MaxInodes}
	_, v = fresh(t, g, 2)
	has(t, v, g, 8*(256-18)-1, 8*64-3)
	if last := v.Last(); last != 0 {
		t.Fatal("Room has patched something")
	}
}

func TestMemory(t *testing.T) {
	_, v := fresh(t, small, 4)
	first, _ := v.Change(5, 0, []byte{1}, nil)
	second, _ := v.Change(6, 0, []byte{1}, nil)
	room := []int{second, first, 77, 78}
	needs := room[:1]
	b, id, e := Block(v, small, 0, needs)
	if b != 4 || e != api.OK || !slices.Equal(room, []int{second, first, 77, 78}) {
		t.Fatal(b, e, room)
	}
	needs[0] = first // it is not kept
	answers(t, api.OK, v.Sync([]int{first}))
	answers(t, api.ErrNone, v.Write(1))
	answers(t, api.OK, v.Sync([]int{id}))
	if !v.IsDone(second) {
		t.Fatal("what was needed is not done")
	}
	room = []int{id, 77, 78}
	if _, e := FreeBlock(v, small, 4, room[:1]); e != api.OK || !slices.Equal(room, []int{id, 77, 78}) {
		t.Fatal(e, room)
	}
	image := newImage(small)
	_, v = open(t, image, 4)
	if h, _ := Header(v, small, 0); !bytes.Equal(h.Inodes[:1], []byte{7}) {
		t.Fatal(h)
	}
	if !reflect.DeepEqual(image, newImage(small)) {
		t.Fatal("the image was changed")
	}
}
