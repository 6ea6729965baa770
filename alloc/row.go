package alloc

import (
	"bollard/api"
	"bollard/bits"
	"bollard/geom"
	"bollard/layout"
	"bollard/volume"
)

// row is one of the two rows of bits that a header has.
type row int

const (
	blocks row = iota
	inodes
)

const (
	firstGiven = 2 // of the inodes; those ahead of it are never given
	byteBits   = 8
)

// spot is a bit of a row of a header.
type spot struct {
	header api.Group
	row    row
	bit    int
}

// of is the row itself: whoever changes it changes the header.
func (r row) of(h *api.Group) []byte {
	if r == blocks {
		return h.Blocks[:]
	}
	return h.Inodes[:]
}

// span is the first bit of a group that may be given, and the one behind the
// last.
func (r row) span(g api.Geom, group int) (int, int) {
	switch {
	case r == blocks:
		first, _, _ := geom.Data(g, group)
		_, from, _ := geom.Group(g, first)
		return from, g.Blocks
	case group == 0:
		return firstGiven, g.Inodes
	}
	return 0, g.Inodes
}

// place is the group and the bit of a block or an inode that there is.
func (r row) place(g api.Geom, number int) (int, int) {
	find := geom.Owner
	if r == blocks {
		find = geom.Group
	}
	group, bit, _ := find(g, number)
	return group, bit
}

// number is the block or the inode that a group's bit stands for.
func (r row) number(g api.Geom, group, bit int) int {
	if r == blocks {
		return group*g.Blocks + bit
	}
	return group*g.Inodes + bit
}

// first is the first bit that may be given, if there is one. What is found by
// going round stands ahead of all that may be.
func (r row) first(g api.Geom, h api.Group) (int, bool) {
	from, end := r.span(g, h.Number)
	bit, some := bits.First(r.of(&h), end, from)
	return bit, some && bit >= from
}

// left is how many may be given.
func (r row) left(g api.Geom, h api.Group) int {
	from, end := r.span(g, h.Number)
	set := bits.Count(r.of(&h), end) - bits.Count(r.of(&h), from)
	return end - from - set
}

// nearest is what the first group has to give that has something, from near on,
// going round. Headers behind that one are not read.
func nearest(v *volume.Volume, g api.Geom, r row, near int) (spot, api.Errno) {
	found, why := spot{}, api.ErrSpace
search:
	for gone := range g.Groups {
		h, failed := Header(v, g, (near+gone)%g.Groups)
		bit, some := r.first(g, h)
		switch {
		case failed != api.OK:
			why = failed
			break search
		case some:
			found, why = spot{header: h, row: r, bit: bit}, api.OK
			break search
		}
	}
	return found, why
}

// emptiest is what the group has to give that has most, of several the first
// one from near on, going round.
func emptiest(v *volume.Volume, g api.Geom, r row, near int) (spot, api.Errno) {
	headers, why := allHeaders(v, g)
	if why != api.OK {
		return spot{}, why
	}
	best := headers[near]
	for gone := range headers {
		if h := headers[(near+gone)%len(headers)]; r.left(g, h) > r.left(g, best) {
			best = h
		}
	}
	bit, some := r.first(g, best)
	if !some {
		return spot{}, api.ErrSpace
	}
	return spot{header: best, row: r, bit: bit}, api.OK
}

// allHeaders reads each header just once: a second read might fail.
func allHeaders(v *volume.Volume, g api.Geom) ([]api.Group, api.Errno) {
	headers := make([]api.Group, g.Groups)
	for group := range headers {
		h, why := Header(v, g, group)
		if why != api.OK {
			return nil, why
		}
		headers[group] = h
	}
	return headers, api.OK
}

// look is where the bit of a block or an inode stands, and whether it is set.
func look(v *volume.Volume, g api.Geom, r row, number int) (spot, bool, api.Errno) {
	group, bit := r.place(g, number)
	h, why := Header(v, g, group)
	if why != api.OK {
		return spot{}, false, why
	}
	return spot{header: h, row: r, bit: bit}, bits.Has(r.of(&h), bit), api.OK
}

// give sets a bit that is not set: what it stands for, and the patch's number.
func give(v *volume.Volume, g api.Geom, s spot, needs []int) (int, int, api.Errno) {
	id, why := turn(v, g, s, needs)
	if why != api.OK {
		return 0, 0, why
	}
	return s.row.number(g, s.header.Number, s.bit), id, api.OK
}

// takeBack clears a bit that is set: the patch's number.
func takeBack(v *volume.Volume, g api.Geom, r row, number int, needs []int) (int, api.Errno) {
	s, set, why := look(v, g, r, number)
	switch {
	case why != api.OK:
		return 0, why
	case !set:
		return 0, api.ErrFree
	}
	return turn(v, g, s, needs)
}

// turn patches the one byte of a header in which a bit stands. Where that is,
// layout alone knows: there the header's bytes part from what they were.
func turn(v *volume.Volume, g api.Geom, s spot, needs []int) (int, api.Errno) {
	was, _ := layout.EncodeGroup(s.header)
	line := s.row.of(&s.header)
	turned, _ := bits.With(line, s.bit, !bits.Has(line, s.bit))
	copy(line, turned)
	is, _ := layout.EncodeGroup(s.header)
	at := bits.Apart(was, is, api.Size*byteBits)[0] / byteBits
	block, _ := geom.Header(g, s.header.Number)
	return v.Change(block, at, is[at:at+1], needs)
}
