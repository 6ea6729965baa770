package inode

import (
	"bytes"
	"reflect"
	"slices"
	"testing"

	"bollard/api"
)

// fives has 8 groups, each with blocks of data from 3 on, counted from its
// beginning: each of some blocks lies in a group of its own.
var fives = api.Geom{Groups: 8, Blocks: 8, Inodes: 4}

// fullImage has an inode 9 with two direct blocks, an indirect one with one
// block, a doubly indirect one with one that has one, each in another group;
// and it. All are allocated.
func fullImage() ([][]byte, api.Dinode, []int) {
	image := newImage(fives)
	d := api.Dinode{Mode: api.ModeFile, Links: 1, Size: 9, Direct: [4]int{0, 8*5 + 3, 0, 8*4 + 4}, Single: 8*6 + 3, Double: 8*3 + 5}
	fan(image, d.Single, 0, 8*1+7)
	fan(image, d.Double, 0, 0, 8*7+3)
	fan(image, 8*7+3, 0, 8*0+3)
	write(image, fives, 9, raw(d))
	set(image[8*2+1], inodesAt, 1)
	span := []int{43, 36, 51, 15, 29, 59, 3}
	take(image, fives, span...)
	return image, d, span
}

func TestP13_4Clear(t *testing.T) {
	image, d, span := fullImage()
	_, v := open(t, image, 20)
	if got, e := Span(v, fives, d); !slices.Equal(got, span) || e != api.OK {
		t.Fatal(got, e)
	}
	id, e := Clear(v, fives, 9, nil)
	if id != 9 || v.Last() != 9 || e != api.OK {
		t.Fatal(id, v.Last(), e)
	}
	inodes, _ := place(fives, 9)
	if got := v.Pending(inodes); !slices.Equal(got, []int{1}) { // first the inode
		t.Fatal(got)
	}
	for k, b := range span { // the blocks in order
		if got := v.Pending(b/8*8 + 1); !slices.Equal(got, []int{2 + k}) {
			t.Fatal(b, got)
		}
	}
	if got := v.Pending(8*2 + 1); !slices.Equal(got, []int{9}) { // at last the inode's bit
		t.Fatal(got)
	}
	want, _, _ := fullImage()
	write(want, fives, 9, make([]byte, 32))
	for _, b := range span {
		want[b/8*8+1][blocksAt] &^= 1 << (b % 8)
	}
	want[8*2+1][inodesAt] &^= 2
	if is := now(t, v); !reflect.DeepEqual(is, want) {
		t.Fatal("other bytes than the inode's and the bits have turned")
	}
}

// TestP13_4Order: the inode waits for the needs, all bits wait for the inode.
func TestP13_4Order(t *testing.T) {
	image, _, span := fullImage()
	_, v := open(t, image, 20)
	var needs []int
	for _, b := range []int{4, 5} {
		id, e := v.Change(b, 0, []byte{1}, nil)
		answers(t, api.OK, e)
		needs = append(needs, id)
	}
	room := []int{needs[0], needs[1], -7}
	_, e := Clear(v, fives, 9, room[:2])
	answers(t, api.OK, e)
	if !slices.Equal(room, []int{needs[0], needs[1], -7}) {
		t.Fatal("what was handed in has turned:", room)
	}
	clear(room)
	isReady(t, v, 4, 5)
	sent(t, v, 4)
	isReady(t, v, 5)
	sent(t, v, 5)
	inodes, _ := place(fives, 9)
	isReady(t, v, inodes)
	sent(t, v, inodes)
	headers := []int{8*2 + 1}
	for _, b := range span {
		headers = append(headers, b/8*8+1)
	}
	slices.Sort(headers)
	isReady(t, v, headers...) // none of them waits for another one
}

// TestP13_4PassedBy: what is no block of data, or free already, is passed by.
func TestP13_4PassedBy(t *testing.T) {
	image, d, _ := fullImage()
	d.Direct = [4]int{1, 43, 64, 43}               // a header, a block, one that there is not, the block again
	fan(image, d.Single, 0, 15, 2, 2047, 0, 8, 51) // an inode's block, none, a superblock, itself
	fan(image, d.Double, 29, 0, 59)                // itself
	fan(image, 59, 0, 3, 4)                        // one that is free
	write(image, fives, 9, raw(d))
	_, v := open(t, image, 20)
	id, e := Clear(v, fives, 9, nil)
	if e != api.OK || id != v.Last() || id != 1+6+1 {
		t.Fatal(id, v.Last(), e)
	}
	want := slices.Clone(image)
	for _, b := range []int{43, 51, 15, 29, 59, 3} {
		want[b/8*8+1] = slices.Clone(want[b/8*8+1])
		want[b/8*8+1][blocksAt] &^= 1 << (b % 8)
	}
	for _, header := range []int{1, 9, 17, 25, 33, 41, 49, 57} {
		got, e := v.Read(header)
		answers(t, api.OK, e)
		if header == 17 {
			want[17][inodesAt] &^= 2
		}
		if !bytes.Equal(got, want[header]) {
			t.Fatalf("%d: %x, want %x", header, got, want[header])
		}
	}
}

// TestP13_4BitNotSet: without the inode's bit the Put's number is told, whatever
// was freed behind it.
func TestP13_4BitNotSet(t *testing.T) {
	image, _, span := fullImage()
	image[8*2+1][inodesAt] = 0
	_, v := open(t, image, 20)
	id, e := Clear(v, fives, 9, nil)
	if id != 1 || v.Last() != 1+len(span) || e != api.OK {
		t.Fatal(id, v.Last(), e)
	}
	id, e = Clear(v, fives, 9, nil) // it is free, and has nothing
	if id != 9 || v.Last() != 9 || e != api.OK {
		t.Fatal(id, v.Last(), e)
	}
	id, e = Clear(v, fives, 31, []int{3})
	if id != 10 || v.Last() != 10 || e != api.OK {
		t.Fatal(id, v.Last(), e)
	}
}

// TestP13_4Empty: an inode that has nothing, and a bit: two patches.
func TestP13_4Empty(t *testing.T) {
	image := newImage(small)
	set(image[1], inodesAt, 3)
	_, v := open(t, image, 4)
	id, e := Clear(v, small, 3, nil)
	if id != 2 || v.Last() != 2 || e != api.OK {
		t.Fatal(id, v.Last(), e)
	}
	if header, _ := v.Read(1); isSet(header, inodesAt, 3) || !isSet(header, inodesAt, 2) {
		t.Fatal(header)
	}
}

func TestP13_4Refuses(t *testing.T) {
	image, _, _ := fullImage()
	for _, ino := range []int{0, 1, 2} { // none of them can be read
		write(image, fives, ino, bytes.Repeat([]byte{1}, 32))
	}
	d, v := open(t, image, 20)
	for _, ino := range append(wild(), 0, 1, 2, 32, 33) {
		stays(t, d, v, api.ErrInode, askClear(v, fives, ino))
		stays(t, d, v, api.ErrInode, askClear(v, fives, ino, -1))
	}
	for _, need := range append(wild(), 0, 1) {
		stays(t, d, v, api.ErrPatch, askClear(v, fives, 9, need))
	}
}

// TestP13_4Errors: of what it reads, each in turn can't be; then nothing has
// changed.
func TestP13_4Errors(t *testing.T) {
	inodes, at := place(fives, 9)
	for _, c := range []struct {
		block, byte int
		why         api.Errno
	}{
		{inodes, at + 3, api.ErrSum}, {51, 127, api.ErrForm}, {29, 1, api.ErrForm}, {59, 1, api.ErrForm}, // they are read ahead of all
		{8*5 + 1, 0, api.ErrMagic}, {8*1 + 1, 2, api.ErrForm}, {8*0 + 1, 127, api.ErrForm}, {8*2 + 1, 1, api.ErrMagic},
	} {
		image, _, _ := fullImage()
		image[c.block][c.byte] ^= 0x80
		if c.byte == 2 {
			image[c.block][2] = 5 // another group's number
		}
		d, v := open(t, image, 20)
		_, e := v.Change(4, 0, []byte{1}, nil)
		answers(t, api.OK, e)
		stays(t, d, v, c.why, askClear(v, fives, 9))
	}
	for _, b := range []int{inodes, 51, 29, 59, 8*5 + 1, 8*1 + 1, 1, 8*2 + 1} {
		image, _, span := fullImage()
		d, v := open(t, image, 20)
		answers(t, api.OK, d.Fail(b, 1))
		stays(t, d, v, api.ErrIO, askClear(v, fives, 9))
		if id, e := Clear(v, fives, 9, nil); id != len(span)+2 || e != api.OK {
			t.Fatal(id, e)
		}
	}
}

// TestP13_4ErrorOrder: Get's is told ahead of Span's, that ahead of a need's,
// that ahead of a header's.
func TestP13_4ErrorOrder(t *testing.T) {
	image, _, _ := fullImage()
	image[8*5+1][0] = 0
	d, v := open(t, image, 20)
	stays(t, d, v, api.ErrMagic, askClear(v, fives, 9))
	stays(t, d, v, api.ErrPatch, askClear(v, fives, 9, 77))
	image[51][127] = 8
	d, v = open(t, image, 20)
	stays(t, d, v, api.ErrForm, askClear(v, fives, 9, 77))
	inodes, at := place(fives, 9)
	image[inodes][at]++
	d, v = open(t, image, 20)
	stays(t, d, v, api.ErrSum, askClear(v, fives, 9, 77))
}
