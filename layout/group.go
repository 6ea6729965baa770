package layout

import (
	"bytes"

	"bollard/api"
	"bollard/word"
)

// EncodeGroup is the bytes of a group's header.
func EncodeGroup(g api.Group) ([]byte, api.Errno) {
	if !within(g.Number, 0, api.MaxGroups-1) {
		return nil, api.ErrArg
	}
	p := newPage(api.Size)
	p.text(groupMagic)
	p.number(byteWide, g.Number)
	p.skip(1)
	p.row(g.Inodes[:])
	p.row(g.Blocks[:])
	return p.bytes, api.OK
}

// DecodeGroup is the header of which these are the bytes.
func DecodeGroup(b []byte) (api.Group, api.Errno) {
	switch {
	case len(b) != api.Size:
		return api.Group{}, api.ErrForm
	case !bytes.HasPrefix(b, []byte(groupMagic)):
		return api.Group{}, api.ErrMagic
	}
	return inForm(readGroup(b), b, EncodeGroup)
}

func readGroup(b []byte) api.Group {
	var g api.Group
	r := word.Over(b)
	r.Skip(len(groupMagic))
	g.Number = r.Take(byteWide)
	r.Skip(1)
	copy(g.Inodes[:], r.Text(len(g.Inodes)))
	copy(g.Blocks[:], r.Text(len(g.Blocks)))
	return g
}
