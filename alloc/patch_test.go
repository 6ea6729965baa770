package alloc

import (
	"bytes"
	"slices"
	"testing"

	"bollard/api"
	"bollard/disk"
	"bollard/volume"
)

// hold lays patches over all bytes of a block but one, none of which may be
// written before another block's is.
func hold(t *testing.T, v *volume.Volume, block, but, other int) {
	t.Helper()
	now, e := v.Read(block)
	answers(t, api.OK, e)
	first, e := v.Change(other, 0, []byte{1}, nil)
	answers(t, api.OK, e)
	_, e = v.Change(block, 0, now[:but], []int{first})
	answers(t, api.OK, e)
	_, e = v.Change(block, but+1, now[but+1:], []int{first})
	answers(t, api.OK, e)
}

// writes sends a header to the disk: the patch is done alone, and the disk's
// header parts from what it was in one bit.
func writes(t *testing.T, d *disk.Disk, v *volume.Volume, header, id, at, bit int) {
	t.Helper()
	was := d.Image()[header]
	answers(t, api.OK, v.Write(header))
	answers(t, api.OK, v.Complete(0, true))
	if !v.IsDone(id) || len(v.Pending(header)) != 2 {
		t.Fatalf("patch %d is not alone: pending are %v", id, v.Pending(header))
	}
	was[at+bit/8] ^= 1 << (bit % 8)
	if is := d.Image()[header]; !bytes.Equal(is, was) {
		t.Fatalf("%x, want %x", is, was)
	}
}

// TestP11_2OneByte: a patch has just the byte that its bit is in, so that it
// waits for no other byte's patches.
func TestP11_2OneByte(t *testing.T) {
	g := api.Geom{Groups: 2, Blocks: 40, Inodes: 16}
	for bit := 6; bit < 40; bit++ {
		image := newImage(g)
		set(image[41], blocksAt, upTo(bit)...)
		d, v := open(t, image, 4)
		hold(t, v, 41, blocksAt+bit/8, 7)
		b, id, e := Block(v, g, 1, nil)
		if b != 40+bit || e != api.OK {
			t.Fatal(b, e)
		}
		writes(t, d, v, 41, id, blocksAt, bit)
		id, e = FreeBlock(v, g, b, nil)
		answers(t, api.OK, e)
		writes(t, d, v, 41, id, blocksAt, bit)
	}
	for bit := range 16 {
		for _, dir := range []bool{false, true} {
			image := newImage(g)
			set(image[1], inodesAt, upTo(16)...)
			set(image[41], inodesAt, upTo(bit)...)
			d, v := open(t, image, 4)
			hold(t, v, 41, inodesAt+bit/8, 7)
			ino, id, e := Inode(v, g, 0, dir)
			if ino != 16+bit || e != api.OK {
				t.Fatal(ino, e)
			}
			writes(t, d, v, 41, id, inodesAt, bit)
			id, e = FreeInode(v, g, ino, nil)
			answers(t, api.OK, e)
			writes(t, d, v, 41, id, inodesAt, bit)
		}
	}
}

// waits fails unless a header's one patch may be written just behind two
// others.
func waits(t *testing.T, v *volume.Volume, header, id int, e api.Errno, others [2]int) {
	t.Helper()
	answers(t, api.OK, e)
	for _, other := range others {
		if slices.Contains(v.Ready(), header) || v.IsDone(id) {
			t.Fatal("it is ready ahead of what it needs")
		}
		answers(t, api.ErrNone, v.Write(header))
		answers(t, api.OK, v.Sync([]int{other}))
	}
	if !slices.Equal(v.Ready(), []int{header}) {
		t.Fatal(v.Ready())
	}
	answers(t, api.OK, v.Sync([]int{id}))
}

// two are two patches of blocks of data.
func two(t *testing.T, v *volume.Volume) [2]int {
	t.Helper()
	first, e := v.Change(6, 9, []byte{1}, nil)
	answers(t, api.OK, e)
	second, e := v.Change(7, 9, []byte{1}, nil)
	answers(t, api.OK, e)
	return [2]int{first, second}
}

func TestP11_2Needs(t *testing.T) {
	_, v := fresh(t, small, 4)
	others := two(t, v)
	b, id, e := Block(v, small, 1, others[:])
	if b != 11 {
		t.Fatal(b)
	}
	waits(t, v, 9, id, e, others)
	_, id, e = Block(v, small, 1, nil)
	answers(t, api.OK, e)
	if !slices.Equal(v.Ready(), []int{9}) || id != v.Last() {
		t.Fatal("without needs it is not ready")
	}
}

func TestP11_2InodeNeedsNothing(t *testing.T) {
	for _, dir := range []bool{false, true} {
		_, v := fresh(t, small, 4)
		two(t, v)
		ino, id, e := Inode(v, small, 1, dir)
		if ino != 4 || e != api.OK || !slices.Equal(v.Ready(), []int{6, 7, 9}) {
			t.Fatal(ino, id, e, v.Ready())
		}
		answers(t, api.OK, v.Write(9))
		answers(t, api.OK, v.Complete(0, true))
		if !v.IsDone(id) || !slices.Equal(v.Dirty(), []int{6, 7}) {
			t.Fatal(v.Dirty())
		}
	}
}

func TestP11_3Needs(t *testing.T) {
	image := newImage(small)
	set(image[9], inodesAt, 2)
	set(image[9], blocksAt, 6)
	_, v := open(t, image, 4)
	others := two(t, v)
	id, e := FreeBlock(v, small, 14, others[:])
	waits(t, v, 9, id, e, others)
	others = two(t, v)
	id, e = FreeInode(v, small, 6, others[:])
	waits(t, v, 9, id, e, others)
}

// TestWrongNeeds: what volume.Change tells of them.
func TestWrongNeeds(t *testing.T) {
	d, v := fresh(t, small, 4)
	gives(t, v, 3)(Inode(v, small, 0, false))
	for _, need := range append(wild(), 0, v.Last()+1) {
		for _, needs := range [][]int{{need}, {1, need}, {need, 1}} {
			stays(t, d, v, api.ErrPatch, askBlock(v, small, 1, needs...))
			stays(t, d, v, api.ErrPatch, askFreeBlock(v, small, 3, needs...))
			stays(t, d, v, api.ErrPatch, askFreeInode(v, small, 3, needs...))
		}
	}
	for _, needs := range [][]int{nil, {}, {1}, {1, 1, 1}} {
		if _, _, e := Block(v, small, 1, needs); e != api.OK {
			t.Fatal(needs, e)
		}
	}
}

// TestFrozen: what a change keeps is the volume's affair; a read that fails
// then is told.
func TestFrozen(t *testing.T) {
	d, v := fresh(t, small, 4)
	answers(t, api.OK, v.Freeze(1))
	was := d.Image()[9]
	gives(t, v, 11)(Block(v, small, 1, nil))
	gives(t, v, 4)(Inode(v, small, 1, false))
	takes(t, v)(FreeBlock(v, small, 11, nil))
	if old, e := v.Old(9); e != api.OK || !bytes.Equal(old, was) || v.Kept() != 1 {
		t.Fatalf("%x, %v", old, e)
	}
	takes(t, v)(FreeBlock(v, small, 3, nil))
	if !v.Broken() {
		t.Fatal("there was no room for another header")
	}
}
