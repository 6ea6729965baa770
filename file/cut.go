package file

import (
	"slices"

	"bollard/alloc"
	"bollard/api"
	"bollard/inode"
	"bollard/layout"
	"bollard/volume"
)

const (
	firstSingle = api.Direct            // the first of a file's blocks to which Single leads
	firstDouble = firstSingle + api.Fan // and that to which Double does
	addressLen  = api.Size / api.Fan    // bytes of an address in an indirect block
)

// cut is a Truncate.
type cut struct {
	v         *volume.Volume
	g         api.Geom
	ino, size int
	was, is   api.Dinode
	put       int // the inode's patch, behind which all others come
	ids       told
}

// fan is an indirect block: its address, the first of the file's blocks to
// which it leads, and to how many each of its addresses leads. (Of a block of
// data that is 0: nothing stands in it.)
type fan struct{ block, first, each int }

func (c *cut) lengthen() api.Errno {
	c.is = c.was
	return c.putSize()
}

// shorten puts the inode without the addresses of what is past its new size.
func (c *cut) shorten() api.Errno {
	c.is = c.was
	for number := range c.is.Direct {
		c.drop(&c.is.Direct[number], number)
	}
	c.drop(&c.is.Single, firstSingle)
	c.drop(&c.is.Double, firstDouble)
	return c.putSize()
}

// drop clears an address that leads to the file's blocks from one on, if that
// is past the size.
func (c *cut) drop(address *int, first int) {
	if c.isPast(first) {
		*address = 0
	}
}

// isPast tells whether a block of the file has no byte below the size.
func (c *cut) isPast(number int) bool {
	return number*api.Size >= c.size
}

func (c *cut) putSize() api.Errno {
	c.is.Size = c.size
	id, why := inode.Put(c.v, c.g, c.ino, c.is, nil)
	c.put = id
	return c.ids.add(id, why)
}

// freeLoose gives back the blocks to which addresses alone led that shorten
// dropped.
func (c *cut) freeLoose() api.Errno {
	was, why := inode.Span(c.v, c.g, c.was)
	if why != api.OK {
		return why
	}
	is, why := inode.Span(c.v, c.g, c.is)
	if why != api.OK {
		return why
	}
	stays := func(b int) bool { return slices.Contains(is, b) }
	return c.free(slices.DeleteFunc(was, stays), c.put)
}

func (c *cut) trimSingle() api.Errno {
	return c.trim(fan{block: c.is.Single, first: firstSingle, each: 1})
}

func (c *cut) trimDouble() api.Errno {
	return c.trim(fan{block: c.is.Double, first: firstDouble, each: api.Fan})
}

// trim clears the addresses in an indirect block that stays, as far as they
// lead past the size, from above down. The first one that doesn't may lead to
// an indirect block that is to be trimmed itself; all that stand below it lead
// to blocks ahead of the size alone.
func (c *cut) trim(f fan) api.Errno {
	if f.block == 0 || f.each == 0 {
		return api.OK
	}
	bytes, why := c.v.Read(f.block)
	if why != api.OK {
		return why
	}
	addresses, why := layout.DecodeFan(bytes)
	if why != api.OK {
		return why
	}
	for place, address := range slices.Backward(addresses) {
		first := f.first + place*f.each
		if !c.isPast(first) {
			return c.trim(fan{block: address, first: first, each: f.each / api.Fan})
		}
		if address == 0 {
			continue
		}
		if why := c.clear(f, place, address); why != api.OK {
			return why
		}
	}
	return api.OK
}

// clear has an address lead nowhere, and gives back what it led to behind that.
func (c *cut) clear(f fan, place, address int) api.Errno {
	led := api.Dinode{Single: address}
	if f.each == 1 {
		led = api.Dinode{Direct: [api.Direct]int{address}}
	}
	blocks, why := inode.Span(c.v, c.g, led)
	if why != api.OK {
		return why
	}
	id, why := c.v.Change(f.block, place*addressLen, make([]byte, addressLen), []int{c.put})
	if why := c.ids.add(id, why); why != api.OK {
		return why
	}
	return c.free(blocks, id)
}

// free gives blocks back, on the disk behind a patch only.
func (c *cut) free(blocks []int, behind int) api.Errno {
	for _, b := range blocks {
		if _, why := alloc.FreeBlock(c.v, c.g, b, []int{behind}); why != api.OK {
			return why
		}
	}
	return api.OK
}

// blank fills the last block from the size on with noughts, so that nothing
// old is seen when the file grows again.
func (c *cut) blank() api.Errno {
	from := c.size % api.Size
	if from == 0 {
		return api.OK
	}
	b, why := inode.Addr(c.v, c.g, c.is, c.size/api.Size)
	if why != api.OK || b == 0 {
		return why
	}
	return c.ids.add(c.v.Change(b, from, make([]byte, api.Size-from), []int{c.put}))
}
