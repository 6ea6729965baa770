package audit

import (
	"slices"

	"bollard/api"
	"bollard/geom"
	"bollard/layout"
	"bollard/scan"
)

// contents is an image that scan accepts. So nothing that is read of it by its
// methods is refused, and they leave errors out.
type contents struct {
	image  [][]byte
	geom   api.Geom
	groups []api.Group
}

func open(image [][]byte) (*contents, api.Errno) {
	if why := scan.Accept(image); why != api.OK {
		return nil, why
	}
	g, _ := scan.Geom(image)
	c := &contents{image: image, geom: g}
	for group := range g.Groups {
		block, _ := geom.Header(g, group)
		h, _ := layout.DecodeGroup(image[block])
		c.groups = append(c.groups, h)
	}
	return c, api.OK
}

func (c *contents) inode(ino int) api.Dinode {
	block, at, _ := geom.Inode(c.geom, ino)
	d, _ := layout.DecodeDinode(c.image[block][at : at+api.DinodeLen])
	return d
}

// pages is the addresses of those blocks of an inode that have bytes of its
// Size, in order; 0: there is none.
func (c *contents) pages(d api.Dinode) []int {
	all := slices.Concat(d.Direct[:], c.fan(d.Single))
	for _, block := range c.fan(d.Double) {
		all = append(all, c.fan(block)...)
	}
	return all[:(d.Size+api.Size-1)/api.Size]
}

// fan is the addresses in an indirect block; noughts, if there is none.
func (c *contents) fan(block int) []int {
	if block == 0 {
		return make([]int, api.Fan)
	}
	addresses, _ := layout.DecodeFan(c.image[block])
	return addresses
}

// entries is those of a directory to which the root leads, as they stand,
// without . and .. .
func (c *contents) entries(d api.Dinode) []api.Entry {
	var out []api.Entry
	for _, block := range c.pages(d) {
		for bytes := range slices.Chunk(c.image[block], api.EntryLen) {
			if e, _ := layout.DecodeEntry(bytes); layout.IsName(e.Name) {
				out = append(out, e)
			}
		}
	}
	return out
}
