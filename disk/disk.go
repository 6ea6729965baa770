// Package disk is layer 2: see ../../shared/doc/02-disk.md.
package disk

import (
	"maps"
	"slices"

	"bollard/api"
)

const maxFails = 1000

// sector is an array, so that every copy of one is memory of its own.
type sector [api.Size]byte

type write struct {
	id, block int
	bytes     sector
}

// Disk is a stand-in for a disk: blocks, and a queue of writes that are not done yet.
type Disk struct {
	blocks  int            // 0 only of a disk that no call made
	sectors map[int]sector // a block that is not in it has noughts
	queue   []write
	last    int         // the last write's number
	fails   map[int]int // how many reads of a block fail still, if any do
}

// New is one of so many blocks of noughts.
func New(blocks int) (*Disk, api.Errno) {
	if blocks < 1 || blocks > api.MaxDisk {
		return nil, api.ErrArg
	}
	return &Disk{blocks: blocks, sectors: map[int]sector{}, fails: map[int]int{}}, api.OK
}

// Of is one of an image.
func Of(image [][]byte) (*Disk, api.Errno) {
	d, why := New(len(image))
	if why != api.OK {
		return nil, why
	}
	for b, bytes := range image {
		if len(bytes) != api.Size {
			return nil, api.ErrArg
		}
		d.sectors[b] = sectorOf(bytes)
	}
	return d, api.OK
}

// Blocks is how many blocks it has.
func (d *Disk) Blocks() int {
	if d == nil {
		return 0
	}
	return d.blocks
}

// Read is a block's bytes, as far as writes are done.
func (d *Disk) Read(b int) ([]byte, api.Errno) {
	switch {
	case !d.made():
		return nil, api.ErrNil
	case !d.has(b):
		return nil, api.ErrArg
	case d.fails[b] > 0:
		d.setFails(b, d.fails[b]-1)
		return nil, api.ErrIO
	}
	return d.bytesOf(b), api.OK
}

// Image is all blocks, as far as writes are done.
func (d *Disk) Image() [][]byte {
	if !d.made() {
		return nil
	}
	image := make([][]byte, d.blocks)
	for b := range image {
		image[b] = d.bytesOf(b)
	}
	return image
}

// Fail has the next reads of a block fail.
func (d *Disk) Fail(b, times int) api.Errno {
	switch {
	case !d.made():
		return api.ErrNil
	case !d.has(b) || times < 0 || times > maxFails:
		return api.ErrArg
	}
	d.setFails(b, times)
	return api.OK
}

// Copy is another disk with the same blocks, queue, numbers and failures.
func (d *Disk) Copy() *Disk {
	if !d.made() {
		return nil
	}
	return &Disk{
		blocks:  d.blocks,
		sectors: maps.Clone(d.sectors),
		queue:   slices.Clone(d.queue),
		last:    d.last,
		fails:   maps.Clone(d.fails),
	}
}

func (d *Disk) made() bool {
	return d.Blocks() > 0
}

func (d *Disk) has(b int) bool {
	return b >= 0 && b < d.blocks
}

func (d *Disk) setFails(b, times int) {
	if times == 0 {
		delete(d.fails, b)
		return
	}
	d.fails[b] = times
}

func (d *Disk) bytesOf(b int) []byte {
	return d.sectors[b].list()
}

// sectorOf is asked only of lists of Size bytes.
func sectorOf(bytes []byte) sector {
	var s sector
	copy(s[:], bytes)
	return s
}

func (s sector) list() []byte {
	out := make([]byte, api.Size)
	copy(out, s[:])
	return out
}
