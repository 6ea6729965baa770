package mkfs

import (
	"bytes"
	"math"
	"math/rand"
	"reflect"
	"slices"
	"testing"

	"bollard/api"
	"bollard/disk"
	"bollard/volume"
)

var small = api.Geom{Groups: 2, Blocks: 16, Inodes: 8}

func diskOf(t *testing.T, image [][]byte) *disk.Disk {
	t.Helper()
	d, e := disk.Of(image)
	if e != api.OK {
		t.Fatal(e)
	}
	return d
}

// state is what a disk tells without a read.
type state struct {
	image [][]byte
	queue []api.Sent
}

func stateOf(d *disk.Disk) state {
	return state{d.Image(), d.Queue()}
}

// refuses fails unless the disk is refused with that number, and stays as it is.
func refuses(t *testing.T, d *disk.Disk, want api.Errno) {
	t.Helper()
	was := stateOf(d)
	v, g, e := Mount(d)
	if v != nil || g != (api.Geom{}) || e != want {
		t.Fatalf("%v, %+v, %v, want %v", v, g, e, want)
	}
	if !reflect.DeepEqual(stateOf(d), was) {
		t.Fatal("the disk has changed")
	}
}

// mounts fails unless the disk is mounted with one patch, which counts so much.
func mounts(t *testing.T, d *disk.Disk, g api.Geom, count uint32) *volume.Volume {
	t.Helper()
	was := stateOf(d)
	v, told, e := Mount(d)
	if e != api.OK || told != g || v == nil {
		t.Fatalf("%+v, %v, want %+v", told, e, g)
	}
	if !reflect.DeepEqual(stateOf(d), was) {
		t.Fatal("the disk has changed")
	}
	if v.Last() != 1 || !slices.Equal(v.Dirty(), []int{0}) || !slices.Equal(v.Pending(0), []int{1}) || !slices.Equal(v.Ready(), []int{0}) {
		t.Fatal("not one patch of block 0:", v.Last(), v.Dirty(), v.Pending(0), v.Ready())
	}
	if now, e := v.Read(0); e != api.OK || !bytes.Equal(now, superOf(g, count)) {
		t.Fatal(now, e)
	}
	return v
}

// TestP17_2AllGeoms: what Make makes is mounted, with its geometry.
func TestP17_2AllGeoms(t *testing.T) {
	everyGeom(func(g api.Geom) {
		if g.Groups%3 == 0 || g.Blocks%50 > 0 && g.Blocks < 256 {
			return
		}
		mounts(t, diskOf(t, book(g)), g, 1)
	})
}

func TestP17_2NewVolume(t *testing.T) {
	image, e := Make(small)
	if e != api.OK {
		t.Fatal(e)
	}
	v := mounts(t, diskOf(t, image), small, 1)
	if v.Blocks() != 32 || v.Kept() != 0 || v.Broken() || len(v.Way()) != 0 {
		t.Fatal("no volume that was just opened")
	}
	for b := 1; b < 32; b++ {
		if now, e := v.Read(b); e != api.OK || !bytes.Equal(now, image[b]) {
			t.Fatal(b, now, e)
		}
	}
}

// TestP17_2WholeBlock: the patch has all of block 0's bytes: whatever the disk
// has there by now, with the patch it is a superblock.
func TestP17_2WholeBlock(t *testing.T) {
	g := api.Geom{Groups: 1, Blocks: 100, Inodes: 8}
	d := diskOf(t, book(g))
	v := mounts(t, d, g, 1)
	id, e := d.Write(0, bytes.Repeat([]byte{0x55}, api.Size))
	if e != api.OK || d.Complete(id, true) != api.OK {
		t.Fatal(e)
	}
	for b := range api.MaxCache { // so that block 0 has no buffer any more
		v.Read(b + 1)
	}
	if now, e := v.Read(0); e != api.OK || !bytes.Equal(now, superOf(g, 1)) {
		t.Fatal(now, e)
	}
	if e := v.Undo(0); e != api.OK {
		t.Fatal(e)
	}
	if now, _ := v.Read(0); now[0] != 0x55 {
		t.Fatal("the buffer is the old one: this tells nothing of the patch")
	}
}

// TestP17_2CountsAgain: each mount counts one more, once it is on the disk.
func TestP17_2CountsAgain(t *testing.T) {
	d := diskOf(t, book(small))
	for count := range uint32(5) {
		mounts(t, d, small, count+1) // what is not written counts nothing
		v := mounts(t, d, small, count+1)
		if e := v.Sync([]int{1}); e != api.OK {
			t.Fatal(e)
		}
		if got := d.Image()[0]; !bytes.Equal(got, superOf(small, count+1)) {
			t.Fatal(got)
		}
		if got := d.Image()[16]; !bytes.Equal(got, superOf(small, 0)) {
			t.Fatal("another group's superblock counts:", got)
		}
	}
}

// TestP17_2GreatestCount: one below the greatest count grows to it; the
// greatest stays, and the patch is there all the same.
func TestP17_2GreatestCount(t *testing.T) {
	for _, c := range []struct{ was, is uint32 }{
		{255, 256}, {math.MaxInt32, math.MaxInt32 + 1}, {math.MaxUint32 - 1, math.MaxUint32}, {math.MaxUint32, math.MaxUint32},
	} {
		image := book(small)
		image[0] = superOf(small, c.was)
		mounts(t, diskOf(t, image), small, c.is)
	}
}

func TestP17_2NoDisk(t *testing.T) {
	for _, d := range []*disk.Disk{nil, {}} {
		if v, g, e := Mount(d); v != nil || g != (api.Geom{}) || e != api.ErrNil {
			t.Fatal(v, g, e)
		}
	}
}

// TestP17_2Buffers: MaxCache blocks are held, not one less, not one more.
func TestP17_2Buffers(t *testing.T) {
	g := api.Geom{Groups: 1, Blocks: 100, Inodes: 8}
	d := diskOf(t, book(g))
	v := mounts(t, d, g, 1)
	for b := range api.MaxCache { // block 0 is held already
		v.Read(b)
	}
	d.Fail(0, 1)
	if _, e := v.Read(0); e != api.OK {
		t.Fatal("block 0 is held no more:", e)
	}
	d.Fail(1, 1) // the one that was used longest ago now
	if _, e := v.Read(64); e != api.OK {
		t.Fatal(e)
	}
	if _, e := v.Read(1); e != api.ErrIO {
		t.Fatal("block 1 is held still:", e)
	}
}

// TestP17_2ReadFails: a failure of block 0 is told, and used up; those of other
// blocks play no part.
func TestP17_2ReadFails(t *testing.T) {
	d := diskOf(t, book(small))
	d.Fail(0, 2)
	for b := 1; b < 32; b++ {
		d.Fail(b, 1000)
	}
	refuses(t, d, api.ErrIO)
	refuses(t, d, api.ErrIO)
	mounts(t, d, small, 1)
}

// TestP17_2Forms: what block 0 may not be.
func TestP17_2Forms(t *testing.T) {
	for _, c := range []struct {
		name   string
		change func(super []byte)
		want   api.Errno
	}{
		{"noughts", func(b []byte) { clear(b) }, api.ErrMagic},
		{"magic", func(b []byte) { b[3]++; seal(b) }, api.ErrMagic},
		{"magic and sum", func(b []byte) { b[0], b[127] = 0, b[127]+1 }, api.ErrMagic},
		{"sum", func(b []byte) { b[127]++ }, api.ErrSum},
		{"mounts, not sealed", func(b []byte) { b[8]++ }, api.ErrSum},
		{"no groups", func(b []byte) { b[4] = 0; seal(b) }, api.ErrForm},
		{"nine groups", func(b []byte) { b[4] = 9; seal(b) }, api.ErrForm},
		{"seven blocks", func(b []byte) { b[5] = 6; seal(b) }, api.ErrForm},
		{"five inodes", func(b []byte) { b[6] = 5; seal(b) }, api.ErrForm},
		{"a byte that no field has", func(b []byte) { b[100] = 1; seal(b) }, api.ErrForm},
	} {
		t.Run(c.name, func(t *testing.T) {
			image := book(small)
			c.change(image[0])
			refuses(t, diskOf(t, image), c.want)
			refuses(t, diskOf(t, image[:9]), c.want) // ahead of a wrong number of blocks
		})
	}
}

// TestP17_2OtherBlocks: only block 0 is looked at.
func TestP17_2OtherBlocks(t *testing.T) {
	image := book(small)
	for b := 1; b < len(image); b++ {
		image[b] = bytes.Repeat([]byte{0xff}, api.Size)
	}
	mounts(t, diskOf(t, image), small, 1)
}

// TestP17_2HowMany: one block less, one more, and far less and more.
func TestP17_2HowMany(t *testing.T) {
	image := book(small)
	for _, n := range []int{1, 2, 16, 31} {
		refuses(t, diskOf(t, image[:n]), api.ErrGeom)
	}
	more := append(slices.Clone(image), book(small)...)
	for _, n := range []int{33, 48, 64} {
		refuses(t, diskOf(t, more[:n]), api.ErrGeom)
	}
	full := api.Geom{Groups: 8, Blocks: 256, Inodes: 64}
	refuses(t, diskOf(t, book(full)[:2047]), api.ErrGeom)
	mounts(t, diskOf(t, book(full)), full, 1)
	less := api.Geom{Groups: 8, Blocks: 255, Inodes: 64}
	image = book(full)
	image[0] = superOf(less, 0)
	refuses(t, diskOf(t, image), api.ErrGeom)
}

// TestP17_2OnTheWay: writes that wait stay in the queue.
func TestP17_2OnTheWay(t *testing.T) {
	d := diskOf(t, book(small))
	d.Write(0, make([]byte, api.Size))
	d.Write(9, bytes.Repeat([]byte{7}, api.Size))
	v := mountsBusy(t, d)
	if e := v.Write(0); e == api.OK {
		t.Fatal("block 0 has a write on the way already")
	}
}

func mountsBusy(t *testing.T, d *disk.Disk) *volume.Volume {
	t.Helper()
	was := stateOf(d)
	v, g, e := Mount(d)
	if e != api.OK || g != small || v.Last() != 1 || !reflect.DeepEqual(stateOf(d), was) {
		t.Fatal(g, e)
	}
	return v
}

// anyDisk is of any bytes, more or less near to a volume's.
func anyDisk(source *rand.Rand) [][]byte {
	image := book(small)
	super := image[0]
	switch source.Intn(4) {
	case 0:
		source.Read(super)
	case 1:
		super[source.Intn(128)] ^= byte(1 << source.Intn(8))
	case 2:
		super[4+source.Intn(8)] ^= byte(1 << source.Intn(8))
		seal(super)
	}
	for range source.Intn(5) {
		source.Read(image[1+source.Intn(31)])
	}
	return image[:32-source.Intn(2)]
}

// TestP17_4AnyDisk: mounting ends, and changes nothing on the disk.
func TestP17_4AnyDisk(t *testing.T) {
	told := map[api.Errno]int{}
	for seed := range int64(3000) {
		source := rand.New(rand.NewSource(seed))
		d := diskOf(t, anyDisk(source))
		if source.Intn(4) == 0 {
			d.Write(source.Intn(31), make([]byte, api.Size))
		}
		if source.Intn(8) == 0 {
			d.Fail(0, 1)
		}
		was := stateOf(d)
		v, g, e := Mount(d)
		told[e]++
		if (e == api.OK) != (v != nil) || (e == api.OK) != (g != api.Geom{}) || !reflect.DeepEqual(stateOf(d), was) {
			t.Fatal(seed, v, g, e)
		}
		if e == api.OK && (g.Groups*g.Blocks != d.Blocks() || v.Last() != 1) {
			t.Fatal(seed, g)
		}
	}
	for _, e := range []api.Errno{api.OK, api.ErrIO, api.ErrMagic, api.ErrSum, api.ErrForm, api.ErrGeom} {
		if told[e] == 0 {
			t.Fatal("no disk that answers", e, told)
		}
	}
}
