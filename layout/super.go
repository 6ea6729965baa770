package layout

import (
	"bytes"

	"bollard/api"
	"bollard/word"
)

const (
	minGroups = 1
	minBlocks = 8
	minInodes = 4

	inodesInBlock = api.Size / api.DinodeLen
	fewestOthers  = 3 // a superblock, a header, a block for data
)

// EncodeSuper is a superblock's bytes.
func EncodeSuper(s api.Super) ([]byte, api.Errno) {
	if !superMay(s) {
		return nil, api.ErrArg
	}
	p := newPage(api.Size)
	p.text(superMagic)
	p.number(byteWide, s.Geom.Groups)
	p.number(byteWide, s.Geom.Blocks-1) // MaxBlocks would not fit
	p.number(byteWide, s.Geom.Inodes)
	p.skip(1)
	p.number(mountsWide, s.Mounts)
	return word.Seal(p.bytes)
}

// DecodeSuper is the superblock of which these are the bytes.
func DecodeSuper(b []byte) (api.Super, api.Errno) {
	switch {
	case len(b) != api.Size:
		return api.Super{}, api.ErrForm
	case !bytes.HasPrefix(b, []byte(superMagic)):
		return api.Super{}, api.ErrMagic
	case !word.Sealed(b):
		return api.Super{}, api.ErrSum
	}
	return inForm(readSuper(b), b, EncodeSuper)
}

func readSuper(b []byte) api.Super {
	var s api.Super
	r := word.Over(b)
	r.Skip(len(superMagic))
	s.Geom.Groups = r.Take(byteWide)
	s.Geom.Blocks = r.Take(byteWide) + 1
	s.Geom.Inodes = r.Take(byteWide)
	r.Skip(1)
	s.Mounts = r.Take(mountsWide)
	return s
}

func superMay(s api.Super) bool {
	return geomMay(s.Geom) && within(s.Mounts, 0, maxMounts)
}

// geomMay says the rule of geometries over again: the layer that answers for
// it stands above this one.
func geomMay(g api.Geom) bool {
	return within(g.Groups, minGroups, api.MaxGroups) &&
		within(g.Blocks, minBlocks, api.MaxBlocks) &&
		within(g.Inodes, minInodes, api.MaxInodes) &&
		g.Inodes%inodesInBlock == 0 &&
		g.Blocks >= fewestOthers+g.Inodes/inodesInBlock
}
