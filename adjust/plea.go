package adjust

import (
	"slices"

	"bollard/alloc"
	"bollard/api"
	"bollard/bits"
	"bollard/geom"
	"bollard/inode"
	"bollard/layout"
	"bollard/scan"
	"bollard/volume"
)

// plea is a request that is looked at anew: what was handed in, and, as far as
// it was heard, what the volume holds now. All that is asked of the volume is
// asked of one image, so that nothing is read twice: a second read might fail.
type plea struct {
	volume  *volume.Volume
	geom    api.Geom
	open    []int
	request api.Request
	gen     int

	image [][]byte
	links []api.Link // of what is reached
}

// hear is the first thing for which a request is refused.
func (p *plea) hear() api.Errno {
	return firstOf(p.tryVolume, p.tryGen, p.takeImage, p.takeLinks, p.tryGeom, p.tryNumber, p.tryKind)
}

func (p *plea) tryVolume() api.Errno {
	switch {
	case !made(p.volume):
		return api.ErrNil
	case geom.Can(p.geom) != api.OK || p.volume.Blocks() < geom.Blocks(p.geom):
		return api.ErrGeom
	}
	return api.OK
}

func (p *plea) tryGen() api.Errno {
	return unlessAny(api.ErrStale, p.request.Gen == p.gen)
}

func (p *plea) takeImage() api.Errno {
	image, why := Image(p.volume)
	p.image = image
	return why
}

// takeLinks refuses an image that is not accepted: scan tells nothing of it.
func (p *plea) takeLinks() api.Errno {
	links, why := scan.Links(p.image)
	p.links = links
	return why
}

func (p *plea) tryGeom() api.Errno {
	its, _ := scan.Geom(p.image) // never refused: the image is accepted
	return unlessAny(api.ErrGeom, its == p.geom)
}

func (p *plea) tryNumber() api.Errno {
	kind, n := p.request.Kind, p.request.N
	return unlessAny(api.ErrArg,
		kind == api.FreeBlock && geom.IsData(p.geom, n),
		kind == api.FreeInode && n > api.Root && n < geom.Inodes(p.geom),
		kind == api.LowerLinks && n >= api.Root && n < geom.Inodes(p.geom))
}

// tryKind is asked only of a number that the kind may have.
func (p *plea) tryKind() api.Errno {
	switch p.request.Kind {
	case api.FreeBlock:
		return p.tryBlock()
	case api.FreeInode:
		return p.tryInode()
	}
	return p.tryLinks()
}

func (p *plea) tryBlock() api.Errno {
	if why := unlessAny(api.ErrFree, p.hasBlock()); why != api.OK {
		return why
	}
	return ifAny(api.ErrHeld, p.isOwned())
}

func (p *plea) tryInode() api.Errno {
	if why := unlessAny(api.ErrFree, p.hasInode(), isUsed(p.inode())); why != api.OK {
		return why
	}
	return ifAny(api.ErrHeld, p.isReached(), p.isOpen())
}

func (p *plea) tryLinks() api.Errno {
	if why := unlessAny(api.ErrFree, isUsed(p.inode())); why != api.OK {
		return why
	}
	return unlessAny(api.ErrArg, p.trueLinks() < p.inode().Links)
}

// grant does what is asked: the patch's number. Nothing stood against it.
func (p *plea) grant() (int, api.Errno) {
	v, g, n := p.volume, p.geom, p.request.N
	switch {
	case p.request.Kind == api.FreeBlock:
		return alloc.FreeBlock(v, g, n, nil)
	case p.isReached() || p.isOpen(): // its links alone are too many
		d := p.inode()
		d.Links = p.trueLinks()
		return inode.Put(v, g, n, d, nil)
	case isUsed(p.inode()):
		return inode.Clear(v, g, n, nil)
	}
	return alloc.FreeInode(v, g, n, nil)
}

// The rest tells what the image says of the request's number; nothing of it is
// refused by layout, for the image is accepted.

func (p *plea) hasBlock() bool {
	group, bit, _ := geom.Group(p.geom, p.request.N)
	h := p.header(group)
	return bits.Has(h.Blocks[:], bit)
}

func (p *plea) hasInode() bool {
	group, bit, _ := geom.Owner(p.geom, p.request.N)
	h := p.header(group)
	return bits.Has(h.Inodes[:], bit)
}

func (p *plea) header(group int) api.Group {
	block, _ := geom.Header(p.geom, group)
	h, _ := layout.DecodeGroup(p.image[block])
	return h
}

func (p *plea) inode() api.Dinode {
	block, at, _ := geom.Inode(p.geom, p.request.N)
	d, _ := layout.DecodeDinode(p.image[block][at : at+api.DinodeLen])
	return d
}

func isUsed(d api.Dinode) bool {
	return d.Mode != api.ModeFree
}

// isOwned tells whether a used inode has the block.
func (p *plea) isOwned() bool {
	claims, _ := scan.Claims(p.image)
	return slices.ContainsFunc(claims, func(c api.Claim) bool { return c.Block == p.request.N })
}

func (p *plea) isOpen() bool {
	return slices.Contains(p.open, p.request.N)
}

func (p *plea) isReached() bool {
	return slices.ContainsFunc(p.links, p.isOfIt)
}

// trueLinks is 0 of an inode that is not reached.
func (p *plea) trueLinks() int {
	i := slices.IndexFunc(p.links, p.isOfIt)
	if i < 0 {
		return 0
	}
	return p.links[i].True
}

func (p *plea) isOfIt(l api.Link) bool {
	return l.Ino == p.request.N
}
