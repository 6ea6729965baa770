package fore

import (
	"slices"

	"bollard/api"
	"bollard/bits"
	"bollard/geom"
	"bollard/layout"
	"bollard/scan"
)

// repair is an image that was accepted, so that layout refuses nothing of it,
// while it is made clean.
type repair struct {
	image  [][]byte // a copy
	geom   api.Geom
	claims []api.Claim
}

func newRepair(image [][]byte) *repair {
	r := &repair{}
	for _, block := range image {
		r.image = append(r.image, slices.Clone(block))
	}
	r.geom, _ = scan.Geom(image)
	r.claims, _ = scan.Claims(image)
	return r
}

// freeInodes frees inodes, with their blocks.
func (r *repair) freeInodes(inodes []int) {
	for _, ino := range inodes {
		r.put(ino, api.Dinode{})
		group, bit, _ := geom.Owner(r.geom, ino)
		r.turn(group, func(h *api.Group) { unset(h.Inodes[:], bit) })
	}
	for _, c := range r.claims {
		if slices.Contains(inodes, c.Ino) {
			r.freeBlock(c.Block)
		}
	}
}

func (r *repair) freeBlocks(blocks []int) {
	for _, b := range blocks {
		r.freeBlock(b)
	}
}

func (r *repair) freeBlock(b int) {
	group, bit, _ := geom.Group(r.geom, b)
	r.turn(group, func(h *api.Group) { unset(h.Blocks[:], bit) })
}

func (r *repair) lowerLinks(links []api.Link) {
	for _, l := range links {
		block, at, _ := geom.Inode(r.geom, l.Ino)
		d, _ := layout.DecodeDinode(r.image[block][at : at+api.DinodeLen])
		d.Links = l.True
		r.put(l.Ino, d)
	}
}

func (r *repair) put(ino int, d api.Dinode) {
	block, at, _ := geom.Inode(r.geom, ino)
	bytes, _ := layout.EncodeDinode(d)
	copy(r.image[block][at:], bytes)
}

// turn changes a group's header.
func (r *repair) turn(group int, change func(h *api.Group)) {
	block, _ := geom.Header(r.geom, group)
	h, _ := layout.DecodeGroup(r.image[block])
	change(&h)
	bytes, _ := layout.EncodeGroup(h)
	copy(r.image[block], bytes)
}

// unset clears a bit that the row has.
func unset(row []byte, bit int) {
	cleared, _ := bits.With(row, bit, false)
	copy(row, cleared)
}
