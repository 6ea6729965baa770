package inode

import (
	"math"
	"reflect"
	"slices"
	"testing"

	"bollard/api"
	"bollard/disk"
	"bollard/volume"
	"bollard/word"
)

// Where a header's two rows of bits begin, as chapter 3 tells it.
const (
	inodesAt = 4
	blocksAt = 12
)

// small has 5 blocks of data and 4 inodes in each of its three groups, wide 21
// and 8.
var (
	small = api.Geom{Groups: 3, Blocks: 8, Inodes: 4}
	wide  = api.Geom{Groups: 2, Blocks: 25, Inodes: 8}
)

// set sets bits of a header, counted from a place of it on.
func set(header []byte, at int, bits ...int) {
	for _, bit := range bits {
		header[at+bit/8] |= 1 << (bit % 8)
	}
}

// isSet tells whether a bit is.
func isSet(header []byte, at, bit int) bool {
	return header[at+bit/8]>>(bit%8)&1 == 1
}

// newImage is a volume's blocks: headers, of which the first one has the inodes
// 0 to 2 allocated; all else is noughts.
func newImage(g api.Geom) [][]byte {
	image := make([][]byte, g.Groups*g.Blocks)
	for b := range image {
		image[b] = make([]byte, api.Size)
	}
	for group := range g.Groups {
		header := image[group*g.Blocks+1]
		copy(header, []byte{'h', 'd', byte(group)})
		for bit := range 2 + g.Inodes/4 {
			set(header, blocksAt, bit)
		}
	}
	set(image[1], inodesAt, 0, 1, 2)
	return image
}

// take allocates blocks of an image.
func take(image [][]byte, g api.Geom, blocks ...int) {
	for _, b := range blocks {
		set(image[b/g.Blocks*g.Blocks+1], blocksAt, b%g.Blocks)
	}
}

// place is the block and the byte at which an inode stands.
func place(g api.Geom, ino int) (int, int) {
	group, bit := ino/g.Inodes, ino%g.Inodes
	return group*g.Blocks + 2 + bit/4, bit % 4 * 32
}

// raw is an inode's bytes as chapter 3 tells them, sealed, whether it may be or
// not.
func raw(d api.Dinode) []byte {
	b := []byte{byte(d.Mode), 0, byte(d.Links), byte(d.Links >> 8)}
	b = append(b, byte(d.Size), byte(d.Size>>8), byte(d.Size>>16), byte(d.Size>>24))
	for _, a := range append(slices.Clone(d.Direct[:]), d.Single, d.Double) {
		b = append(b, byte(a), byte(a>>8))
	}
	b, _ = word.Seal(append(b, make([]byte, 12)...))
	return b
}

// write puts an inode's bytes into an image.
func write(image [][]byte, g api.Geom, ino int, bytes []byte) {
	block, at := place(g, ino)
	copy(image[block][at:at+32], bytes)
}

// fan fills a block of an image with addresses: the first ones, noughts behind.
func fan(image [][]byte, block int, addresses ...int) {
	clear(image[block])
	for i, a := range addresses {
		image[block][2*i], image[block][2*i+1] = byte(a), byte(a>>8)
	}
}

func open(t *testing.T, image [][]byte, buffers int) (*disk.Disk, *volume.Volume) {
	t.Helper()
	d, e := disk.Of(image)
	answers(t, api.OK, e)
	v, e := volume.Open(d, buffers)
	answers(t, api.OK, e)
	return d, v
}

func answers(t *testing.T, want, got api.Errno) {
	t.Helper()
	if got != want {
		t.Fatalf("%v, want %v", got, want)
	}
}

// wild are numbers that are out of every range.
func wild() []int {
	return []int{math.MinInt, math.MinInt + 1, math.MinInt32, -1 << 32, -256, -3, -2, -1,
		1 << 16, math.MaxInt32, 1 << 32, 1<<32 + 4, math.MaxInt - 1, math.MaxInt}
}

// told is all that a volume tells but what its blocks are now.
type told struct {
	last, kept        int
	broken            bool
	dirty, ready, way []int
	pending           [][]int
	image             [][]byte
	queue             []api.Sent
}

// tell reads no block by the volume: that might use up a read that fails.
func tell(d *disk.Disk, v *volume.Volume) told {
	out := told{
		last: v.Last(), kept: v.Kept(), broken: v.Broken(),
		dirty: v.Dirty(), ready: v.Ready(), way: v.Way(),
		image: d.Image(), queue: d.Queue(),
	}
	for b := range v.Blocks() {
		out.pending = append(out.pending, v.Pending(b))
	}
	return out
}

// now is all blocks as they are now.
func now(t *testing.T, v *volume.Volume) [][]byte {
	t.Helper()
	var image [][]byte
	for b := range v.Blocks() {
		bytes, e := v.Read(b)
		answers(t, api.OK, e)
		image = append(image, bytes)
	}
	return image
}

// ask is a call: whether what it tells but the error is zero, and the error.
type ask func() (bool, api.Errno)

// stays fails unless a call answers that number and nothing beside it, and
// leaves the volume as it was.
func stays(t *testing.T, d *disk.Disk, v *volume.Volume, want api.Errno, call ask) {
	t.Helper()
	was := tell(d, v)
	zero, e := call()
	if e != want || !zero {
		t.Fatalf("%v (nothing beside it: %t), want %v", e, zero, want)
	}
	if is := tell(d, v); !reflect.DeepEqual(is, was) {
		t.Fatalf("the call has changed the volume: %v, was %v", is, was)
	}
}

func askGet(v *volume.Volume, g api.Geom, ino int) ask {
	return func() (bool, api.Errno) {
		d, e := Get(v, g, ino)
		return d == api.Dinode{}, e
	}
}

func askPut(v *volume.Volume, g api.Geom, ino int, d api.Dinode, needs ...int) ask {
	return func() (bool, api.Errno) {
		id, e := Put(v, g, ino, d, needs)
		return id == 0, e
	}
}

func askAddr(v *volume.Volume, g api.Geom, d api.Dinode, i int) ask {
	return func() (bool, api.Errno) {
		b, e := Addr(v, g, d, i)
		return b == 0, e
	}
}

func askSpan(v *volume.Volume, g api.Geom, d api.Dinode) ask {
	return func() (bool, api.Errno) {
		l, e := Span(v, g, d)
		return len(l) == 0, e
	}
}

func askGrow(v *volume.Volume, g api.Geom, ino int, d api.Dinode, i int) ask {
	return func() (bool, api.Errno) {
		b, grown, ahead, e := Grow(v, g, ino, d, i)
		return b == 0 && grown == api.Dinode{} && len(ahead) == 0, e
	}
}

func askClear(v *volume.Volume, g api.Geom, ino int, needs ...int) ask {
	return func() (bool, api.Errno) {
		id, e := Clear(v, g, ino, needs)
		return id == 0, e
	}
}

// all is every call, wrong in each of its arguments but the first two.
func all(v *volume.Volume, g api.Geom) []ask {
	d := api.Dinode{Mode: 77, Single: -1, Double: 1 << 20}
	return []ask{askGet(v, g, -1), askPut(v, g, -1, d, -1), askAddr(v, g, d, -1), askSpan(v, g, d), askGrow(v, g, -1, d, -1), askClear(v, g, -1, -1)}
}

// files are inodes that may be.
func files() []api.Dinode {
	return []api.Dinode{
		{},
		{Mode: api.ModeFile},
		{Mode: api.ModeDir},
		{Mode: api.ModeFile, Links: api.MaxLinks, Size: api.MaxFile, Direct: [4]int{2047, 2047, 2047, 2047}, Single: 2047, Double: 2047},
		{Mode: api.ModeDir, Links: 2, Size: api.MaxFile, Direct: [4]int{1, 2, 3, 4}, Single: 5, Double: 6},
		{Mode: api.ModeFile, Links: 1, Size: 77, Direct: [4]int{0, 300, 0, 4}, Double: 1},
	}
}

// wrongs are inodes that may not be.
func wrongs() []api.Dinode {
	l := []api.Dinode{
		{Mode: 3}, {Mode: -1}, {Mode: 257}, {Links: 1}, {Size: 1}, {Direct: [4]int{0, 0, 0, 1}}, {Single: 1}, {Double: 1},
		{Mode: api.ModeFile, Links: api.MaxLinks + 1}, {Mode: api.ModeFile, Size: api.MaxFile + 1}, {Mode: api.ModeDir, Size: 127},
	}
	for _, n := range append(wild(), 2048) {
		if n != api.Size && n != -api.Size {
			l = append(l, api.Dinode{Mode: api.ModeFile, Direct: [4]int{0, n}}, api.Dinode{Mode: api.ModeFile, Single: n}, api.Dinode{Mode: api.ModeFile, Double: n})
		}
	}
	return append(l, api.Dinode{Mode: api.ModeFile, Links: -1}, api.Dinode{Mode: api.ModeFile, Size: -1}, api.Dinode{Mode: api.ModeDir, Size: -128})
}

func TestP13_1Get(t *testing.T) {
	for _, g := range []api.Geom{small, wide, {Groups: 8, Blocks: 256, Inodes: 64}, {Groups: 1, Blocks: 8, Inodes: 4}} {
		image := newImage(g)
		inodes := g.Groups * g.Inodes
		for ino := range inodes {
			if d := files()[ino%len(files())]; d.Mode != api.ModeFree {
				write(image, g, ino, raw(d))
			}
		}
		d, v := open(t, image, 8)
		for ino := range inodes {
			want := files()[ino%len(files())]
			if got, e := Get(v, g, ino); got != want || e != api.OK {
				t.Fatalf("%v: inode %d: %v, %v; want %v", g, ino, got, e, want)
			}
		}
		for _, ino := range append(wild(), inodes, inodes+1) {
			stays(t, d, v, api.ErrInode, askGet(v, g, ino))
		}
	}
}

func TestP13_1GetErrors(t *testing.T) {
	image := newImage(small)
	bad := raw(files()[5])
	bad[9]++
	write(image, small, 3, bad)
	for i, d := range []api.Dinode{{Mode: 3}, {Mode: api.ModeDir, Size: 1}, {Links: 5}, {Mode: api.ModeFile, Single: 2048}} {
		write(image, small, 4+i, raw(d))
	}
	d, v := open(t, image, 1)
	stays(t, d, v, api.ErrSum, askGet(v, small, 3))
	for ino := 4; ino < 8; ino++ {
		stays(t, d, v, api.ErrForm, askGet(v, small, ino))
	}
	block, _ := place(small, 9)
	answers(t, api.OK, d.Fail(block, 1))
	stays(t, d, v, api.ErrIO, askGet(v, small, 9))
	if got, e := Get(v, small, 9); got != (api.Dinode{}) || e != api.OK {
		t.Fatal(got, e)
	}
}

// TestP13_1Now: what was put and is not on the disk yet is told.
func TestP13_1Now(t *testing.T) {
	image := newImage(wide)
	for ino := range 16 {
		write(image, wide, ino, raw(files()[4]))
	}
	_, v := open(t, image, 2)
	for ino := range 16 {
		for _, d := range files() {
			was := now(t, v)
			id, e := Put(v, wide, ino, d, nil)
			if e != api.OK || id != v.Last() {
				t.Fatal(id, e)
			}
			want := make([]byte, 32)
			if d.Mode != api.ModeFree {
				want = raw(d)
			}
			write(was, wide, ino, want)
			if is := now(t, v); !reflect.DeepEqual(is, was) {
				t.Fatalf("inode %d: %v is not put as it should be, or other bytes have turned", ino, d)
			}
			if got, e := Get(v, wide, ino); got != d || e != api.OK {
				t.Fatal(got, e)
			}
		}
	}
}

// TestP13_1OnePatch: a Put is one patch, it has all its 32 bytes, and no
// others.
func TestP13_1OnePatch(t *testing.T) {
	for _, ino := range []int{0, 5, 15} {
		for _, d := range []api.Dinode{files()[4], {}} {
			block, at := place(wide, ino)
			for k := range api.Size {
				_, v := open(t, newImage(wide), 4)
				other, e := v.Change(20, 0, []byte{1}, nil)
				answers(t, api.OK, e)
				under, e := v.Change(block, k, []byte{0}, []int{other})
				answers(t, api.OK, e)
				id, e := Put(v, wide, ino, d, nil)
				answers(t, api.OK, e)
				if !slices.Equal(v.Pending(block), []int{under, id}) {
					t.Fatal(v.Pending(block))
				}
				if waits := !slices.Contains(v.Ready(), block); waits != (k >= at && k < at+32) {
					t.Fatalf("inode %d: it overlaps byte %d: %t", ino, k, waits)
				}
			}
		}
	}
}

func TestP13_1Needs(t *testing.T) {
	_, v := open(t, newImage(wide), 4)
	a, e := v.Change(20, 0, []byte{1}, nil)
	answers(t, api.OK, e)
	b, e := v.Change(21, 0, []byte{1}, nil)
	answers(t, api.OK, e)
	room := []int{a, b, -5, -6}
	id, e := Put(v, wide, 9, files()[1], room[:2])
	answers(t, api.OK, e)
	if !slices.Equal(room, []int{a, b, -5, -6}) {
		t.Fatal("what was handed in has turned:", room)
	}
	room[0], room[1] = id, id
	for _, need := range []int{a, b} {
		if block, _ := place(wide, 9); slices.Contains(v.Ready(), block) {
			t.Fatal("it is ready ahead of what it needs")
		}
		answers(t, api.OK, v.Sync([]int{need}))
	}
	answers(t, api.OK, v.Sync([]int{id}))
}

func TestP13_1PutRefuses(t *testing.T) {
	d, v := open(t, newImage(wide), 4)
	for _, ino := range append(wild(), 16, 17) {
		stays(t, d, v, api.ErrInode, askPut(v, wide, ino, wrongs()[0], 99))
	}
	for _, w := range wrongs() {
		stays(t, d, v, api.ErrArg, askPut(v, wide, 5, w, 99))
	}
	for _, need := range append(wild(), 0, 1) {
		stays(t, d, v, api.ErrPatch, askPut(v, wide, 5, files()[4], need))
	}
	block, _ := place(wide, 5)
	answers(t, api.OK, v.Freeze(9))
	answers(t, api.OK, d.Fail(block, 1))
	stays(t, d, v, api.ErrIO, askPut(v, wide, 5, files()[4]))
	if _, e := Put(v, wide, 5, files()[4], nil); e != api.OK || v.Kept() != 1 {
		t.Fatal(e)
	}
}

func TestP13NoVolume(t *testing.T) {
	for _, v := range []*volume.Volume{nil, {}} {
		for _, g := range []api.Geom{small, {}} {
			for _, call := range all(v, g) {
				if zero, e := call(); !zero || e != api.ErrNil {
					t.Fatal(zero, e)
				}
			}
		}
	}
}

func TestP13Geometry(t *testing.T) {
	d, v := open(t, newImage(small), 4)
	for _, g := range []api.Geom{
		{}, {Groups: 3, Blocks: 8}, {Groups: -3, Blocks: 8, Inodes: 4}, {Groups: 9, Blocks: 8, Inodes: 4}, {Groups: 3, Blocks: 7, Inodes: 4},
		{Groups: 3, Blocks: 8, Inodes: 5}, {Groups: 1, Blocks: 8, Inodes: 24}, {Groups: math.MaxInt, Blocks: math.MaxInt, Inodes: math.MinInt},
		{Groups: 4, Blocks: 8, Inodes: 4}, {Groups: 1, Blocks: 25, Inodes: 4}, {Groups: 8, Blocks: 256, Inodes: 64}, // more blocks than the volume has
	} {
		for _, call := range all(v, g) {
			stays(t, d, v, api.ErrGeom, call)
		}
	}
	for _, g := range []api.Geom{small, {Groups: 1, Blocks: 24, Inodes: 8}, {Groups: 2, Blocks: 8, Inodes: 4}} { // as many, or fewer
		if _, e := Get(v, g, 3); e != api.OK {
			t.Fatal(g, e)
		}
	}
}
