package layout

import (
	"bollard/api"
	"bollard/word"
)

// EncodeDinode is an inode's bytes; a free one's are all 0, not sealed.
func EncodeDinode(d api.Dinode) ([]byte, api.Errno) {
	switch {
	case !dinodeMay(d):
		return nil, api.ErrArg
	case d == api.Dinode{}:
		return make([]byte, api.DinodeLen), api.OK
	}
	p := newPage(api.DinodeLen)
	p.number(byteWide, d.Mode)
	p.skip(1)
	p.number(linksWide, d.Links)
	p.number(sizeWide, d.Size)
	p.numbers(addressWide, d.Direct[:])
	p.number(addressWide, d.Single)
	p.number(addressWide, d.Double)
	return word.Seal(p.bytes)
}

// DecodeDinode is the inode of which these are the bytes.
func DecodeDinode(b []byte) (api.Dinode, api.Errno) {
	switch {
	case len(b) != api.DinodeLen:
		return api.Dinode{}, api.ErrForm
	case [api.DinodeLen]byte(b) == [api.DinodeLen]byte{}:
		return api.Dinode{}, api.OK
	case !word.Sealed(b):
		return api.Dinode{}, api.ErrSum
	}
	return inForm(readDinode(b), b, EncodeDinode)
}

func readDinode(b []byte) api.Dinode {
	var d api.Dinode
	r := word.Over(b)
	d.Mode = r.Take(byteWide)
	r.Skip(1)
	d.Links = r.Take(linksWide)
	d.Size = r.Take(sizeWide)
	takeAll(r, addressWide, d.Direct[:])
	d.Single = r.Take(addressWide)
	d.Double = r.Take(addressWide)
	return d
}

func dinodeMay(d api.Dinode) bool {
	switch d.Mode {
	case api.ModeFree:
		return d == api.Dinode{}
	case api.ModeFile:
		return usedMay(d)
	case api.ModeDir:
		return usedMay(d) && d.Size%api.Size == 0
	}
	return false
}

// usedMay is what files and directories have in common.
func usedMay(d api.Dinode) bool {
	return within(d.Links, 0, api.MaxLinks) &&
		within(d.Size, 0, api.MaxFile) &&
		areAddresses(d.Direct[:]) &&
		areAddresses([]int{d.Single, d.Double})
}
