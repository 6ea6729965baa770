package check

import (
	"slices"

	"bollard/api"
	"bollard/dirs"
	"bollard/geom"
	"bollard/layout"
)

const mostBlocks = api.Direct + api.Fan + api.Fan*api.Fan // of an inode

// What can be read, and not be decoded, is the zero thing beside the error: a
// header without bits, a free inode, no addresses, no entries. That is what it
// counts as, and so the errors of decoding are asked nowhere here.

func (c *Checker) header(group int) (api.Group, api.Errno) {
	block, _ := geom.Header(c.snap.Geom(), group)
	bytes, why := c.snap.Read(block)
	if why != api.OK {
		return api.Group{}, why
	}
	h, _ := layout.DecodeGroup(bytes)
	return h, api.OK
}

func (c *Checker) inode(ino int) (api.Dinode, api.Errno) {
	block, at, _ := geom.Inode(c.snap.Geom(), ino)
	bytes, why := c.snap.Read(block)
	if why != api.OK {
		return api.Dinode{}, why
	}
	d, _ := layout.DecodeDinode(bytes[at : at+api.DinodeLen])
	return d, api.OK
}

func (c *Checker) fan(block int) ([]int, api.Errno) {
	bytes, why := c.snap.Read(block)
	if why != api.OK {
		return nil, why
	}
	addresses, _ := layout.DecodeFan(bytes)
	return addresses, api.OK
}

func (c *Checker) page(block int) ([]api.Entry, api.Errno) {
	bytes, why := c.snap.Read(block)
	if why != api.OK {
		return nil, why
	}
	entries, _ := dirs.Decode(bytes)
	return slices.DeleteFunc(entries, isEmpty), api.OK
}

func isEmpty(e api.Entry) bool {
	return e == api.Entry{}
}

// entries is those of a directory's blocks of its Size, as they stand.
func (c *Checker) entries(dir int) ([]api.Entry, api.Errno) {
	d, why := c.inode(dir)
	if why != api.OK {
		return nil, why
	}
	blocks, why := c.span(d, d.Size/api.Size)
	if why != api.OK {
		return nil, why
	}
	var out []api.Entry
	for _, a := range blocks {
		if a.depth > 0 {
			continue
		}
		page, why := c.page(a.block)
		if why != api.OK {
			return nil, why
		}
		out = append(out, page...)
	}
	return out, api.OK
}

// address leads from an inode, or from one of its indirect blocks, to a block.
type address struct {
	block  int
	depth  int // how many indirect blocks deep it is: 0 of a block that holds bytes
	number int // the first of the inode's blocks to which it leads
}

// span is the addresses of an inode that lead to the first so many of its
// blocks, an indirect block ahead of what stands in it; such as are no blocks
// of data are left out, with all that is below them.
func (c *Checker) span(d api.Dinode, many int) ([]address, api.Errno) {
	var out []address
	for _, a := range addressesOf(d) {
		some, why := c.reach(a, many)
		if why != api.OK {
			return nil, why
		}
		out = append(out, some...)
	}
	return out, api.OK
}

func addressesOf(d api.Dinode) []address {
	var out []address
	for i, b := range d.Direct {
		out = append(out, address{block: b, number: i})
	}
	return append(out,
		address{block: d.Single, depth: 1, number: api.Direct},
		address{block: d.Double, depth: 2, number: api.Direct + api.Fan})
}

// reach is an address, and all below it. Of what leads only to blocks behind
// the first so many nothing is read.
func (c *Checker) reach(a address, many int) ([]address, api.Errno) {
	switch {
	case a.number >= many || !geom.IsData(c.snap.Geom(), a.block):
		return nil, api.OK
	case a.depth == 0:
		return []address{a}, api.OK
	}
	fan, why := c.fan(a.block)
	if why != api.OK {
		return nil, why
	}
	out := []address{a}
	for i, b := range fan {
		some, why := c.reach(a.below(i, b), many)
		if why != api.OK {
			return nil, why
		}
		out = append(out, some...)
	}
	return out, api.OK
}

// below is the address in place i of the indirect block to which a leads.
func (a address) below(i, block int) address {
	width := 1 // how many blocks each place leads to
	for range a.depth - 1 {
		width *= api.Fan
	}
	return address{block: block, depth: a.depth - 1, number: a.number + i*width}
}
