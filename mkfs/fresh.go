package mkfs

import (
	"bollard/api"
	"bollard/bits"
	"bollard/dirs"
	"bollard/geom"
	"bollard/layout"
)

const rootLinks = 2 // its . and its ..

// The structures of a new volume are never refused by layout and dirs: its
// geometry was found to be one that can be.

func noughts(blocks int) [][]byte {
	image := make([][]byte, blocks)
	for b := range image {
		image[b] = make([]byte, api.Size)
	}
	return image
}

// beginGroup writes what stands ahead of a group's inodes, which are free: the
// noughts that are there already.
func beginGroup(image [][]byte, g api.Geom, group int) {
	super, _ := geom.Super(g, group)
	header, _ := geom.Header(g, group)
	image[super], _ = layout.EncodeSuper(api.Super{Geom: g})
	image[header], _ = layout.EncodeGroup(newHeader(g, group))
}

func newHeader(g api.Geom, group int) api.Group {
	h := api.Group{Number: group}
	data, _, _ := geom.Data(g, group)
	_, notData, _ := geom.Group(g, data)
	if group == 0 {
		setFirst(h.Inodes[:], api.Root+1)
		notData++ // the root's block, right behind those
	}
	setFirst(h.Blocks[:], notData)
	return h
}

// setFirst sets the first n bits of a row.
func setFirst(row []byte, n int) {
	for bit := range n {
		turned, _ := bits.With(row, bit, true)
		copy(row, turned)
	}
}

// plantRoot writes the root's inode, and its one block.
func plantRoot(image [][]byte, g api.Geom) {
	data, _, _ := geom.Data(g, 0)
	image[data], _ = dirs.Encode([]api.Entry{{Ino: api.Root, Name: "."}, {Ino: api.Root, Name: ".."}})

	root := api.Dinode{Mode: api.ModeDir, Links: rootLinks, Size: api.Size}
	root.Direct[0] = data
	bytes, _ := layout.EncodeDinode(root)
	block, at, _ := geom.Inode(g, api.Root)
	copy(image[block][at:], bytes)
}
