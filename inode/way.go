package inode

import (
	"bollard/alloc"
	"bollard/api"
	"bollard/layout"
	"bollard/volume"
)

const addressLen = api.Size / api.Fan

// slot is where an address stands. Its two kinds part in how it is changed:
// an inode is put by whoever asked for the block, an indirect block is patched
// at once.
type slot interface {
	// address is what stands there now; 0: none.
	address(v *volume.Volume) (int, api.Errno)
	// lead has it lead to a new block: the patches that must be on the disk
	// ahead of the inode then.
	lead(v *volume.Volume, to fresh) ([]int, api.Errno)
}

// field is a slot in an inode.
type field struct{ stands *int }

// leaf is a slot in an indirect block.
type leaf struct{ block, place int }

// fresh is a block that was just given, and the patches that did that: of its
// bit, and of its bytes.
type fresh struct{ block, bit, noughts int }

// way leads from an inode to one of its blocks: the first slot, and the places
// in the indirect blocks that follow, from above.
type way struct {
	slot   slot
	places []int
}

// end is how far a way leads: what is left of it, its first slot being the last
// one that there is, and the address in that.
type end struct {
	way     way
	address int
}

func (f field) address(*volume.Volume) (int, api.Errno) {
	return *f.stands, api.OK
}

func (f field) lead(_ *volume.Volume, to fresh) ([]int, api.Errno) {
	*f.stands = to.block
	return []int{to.bit, to.noughts}, api.OK
}

func (l leaf) address(v *volume.Volume) (int, api.Errno) {
	fan, why := readFan(v, l.block)
	if why != api.OK {
		return 0, why
	}
	return fan[l.place], api.OK
}

func (l leaf) lead(v *volume.Volume, to fresh) ([]int, api.Errno) {
	fan := make([]int, api.Fan)
	fan[l.place] = to.block
	bytes, _ := layout.EncodeFan(fan) // never refused: each block that alloc gives may stand there
	at := l.place * addressLen
	id, why := v.Change(l.block, at, bytes[at:at+addressLen], []int{to.bit, to.noughts})
	if why != api.OK {
		return nil, why
	}
	return []int{id}, api.OK
}

// wayTo is the way to a block that an inode may have. Its first slot is in d
// itself: whoever leads it elsewhere changes d.
func wayTo(d *api.Dinode, i int) way {
	switch {
	case i < api.Direct:
		return way{slot: field{&d.Direct[i]}}
	case i < api.Direct+api.Fan:
		return way{slot: field{&d.Single}, places: []int{i - api.Direct}}
	}
	i -= api.Direct + api.Fan
	return way{slot: field{&d.Double}, places: []int{i / api.Fan, i % api.Fan}}
}

// next is what is left of a way behind its first slot, which leads to b.
func (w way) next(b int) way {
	return way{slot: leaf{block: b, place: w.places[0]}, places: w.places[1:]}
}

func (w way) isLast() bool {
	return len(w.places) == 0
}

// follow goes down a way to its last slot, or to the first one in which no
// address stands.
func follow(v *volume.Volume, w way) (end, api.Errno) {
	for {
		b, why := w.slot.address(v)
		switch {
		case why != api.OK:
			return end{}, why
		case b == 0 || w.isLast():
			return end{way: w, address: b}, api.OK
		}
		w = w.next(b)
	}
}

// pave gives all that is missing on a way in whose first slot no address
// stands: the block to which it leads then, and the patches that must be ahead
// of the inode. It reads nothing that it gave itself: the disk's bytes of that
// play no part. What it patched until an error stays.
func pave(v *volume.Volume, g api.Geom, near int, w way) (int, []int, api.Errno) {
	var ahead []int
	for {
		made, why := give(v, g, near)
		if why != api.OK {
			return 0, nil, why
		}
		ids, why := w.slot.lead(v, made)
		if why != api.OK {
			return 0, nil, why
		}
		ahead = append(ahead, ids...)
		if w.isLast() {
			return made.block, ahead, api.OK
		}
		w = w.next(made.block)
	}
}

// give allocates a block, and fills it with noughts.
func give(v *volume.Volume, g api.Geom, near int) (fresh, api.Errno) {
	b, bit, why := alloc.Block(v, g, near, nil)
	if why != api.OK {
		return fresh{}, why
	}
	noughts, why := v.Change(b, 0, make([]byte, api.Size), []int{bit})
	if why != api.OK {
		return fresh{}, why
	}
	return fresh{block: b, bit: bit, noughts: noughts}, api.OK
}

// reach is a block, and all blocks below it, so many indirect ones deep; none
// of an address that is none.
func reach(v *volume.Volume, b, depth int) ([]int, api.Errno) {
	switch {
	case b == 0:
		return nil, api.OK
	case depth == 0:
		return []int{b}, api.OK
	}
	fan, why := readFan(v, b)
	if why != api.OK {
		return nil, why
	}
	blocks := []int{b}
	for _, lower := range fan {
		below, why := reach(v, lower, depth-1)
		if why != api.OK {
			return nil, why
		}
		blocks = append(blocks, below...)
	}
	return blocks, api.OK
}

func readFan(v *volume.Volume, b int) ([]int, api.Errno) {
	bytes, why := v.Read(b)
	if why != api.OK {
		return nil, why
	}
	return layout.DecodeFan(bytes)
}
