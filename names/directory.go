package names

import (
	"slices"

	"bollard/api"
	"bollard/dirs"
	"bollard/geom"
	"bollard/inode"
	"bollard/volume"
)

// directory is one that is open: all its blocks have been read, and may be.
type directory struct {
	v     *volume.Volume
	g     api.Geom
	ino   int
	inode api.Dinode
	pages []page
}

// page is a block of a directory, and where it stands.
type page struct {
	block int
	bytes []byte
}

// spot is where an entry stands: its block, its first byte there; and its inode
// (0 of an empty one).
type spot struct{ block, at, ino int }

// open is all that calls of a directory have in common.
func open(v *volume.Volume, g api.Geom, ino int) (*directory, api.Errno) {
	d, why := inode.Get(v, g, ino)
	switch {
	case why != api.OK:
		return nil, why
	case d.Mode != api.ModeDir:
		return nil, api.ErrNotDir
	}
	out := &directory{v: v, g: g, ino: ino, inode: d}
	for number := range out.size() {
		p, why := readPage(v, g, d, number)
		if why != api.OK {
			return nil, why
		}
		out.pages = append(out.pages, p)
	}
	return out, api.OK
}

// seek opens a directory, and finds a name there.
func seek(v *volume.Volume, g api.Geom, dir int, name string) (*directory, spot, api.Errno) {
	d, why := open(v, g, dir)
	if why != api.OK {
		return nil, spot{}, why
	}
	where, why := d.find(name)
	return d, where, why
}

func readPage(v *volume.Volume, g api.Geom, d api.Dinode, number int) (page, api.Errno) {
	block, why := inode.Addr(v, g, d, number)
	switch {
	case why != api.OK:
		return page{}, why
	case block == 0:
		return page{}, api.ErrForm
	}
	bytes, why := v.Read(block)
	if why != api.OK {
		return page{}, why
	}
	if _, why := dirs.Decode(bytes); why != api.OK {
		return page{}, why
	}
	return page{block: block, bytes: bytes}, api.OK
}

// size is how many blocks it has.
func (d *directory) size() int {
	return d.inode.Size / api.Size
}

// find is where the entry of a name stands.
func (d *directory) find(name string) (spot, api.Errno) {
	for _, p := range d.pages {
		if place, ino, there := dirs.Find(p.bytes, name); there {
			return p.spot(place, ino), api.OK
		}
	}
	return spot{}, api.ErrAbsent
}

// free is where the first empty entry stands, if there is one.
func (d *directory) free() (spot, bool) {
	for _, p := range d.pages {
		if place, some := dirs.Free(p.bytes); some {
			return p.spot(place, 0), true
		}
	}
	return spot{}, false
}

func (p page) spot(place, ino int) spot {
	return spot{block: p.block, at: place * api.EntryLen, ino: ino}
}

// entries is those that are not empty, as they stand.
func (d *directory) entries() []api.Entry {
	var out []api.Entry
	for _, p := range d.pages {
		l, _ := dirs.Decode(p.bytes) // never refused: it was asked when the page was read
		out = append(out, slices.DeleteFunc(l, isEmpty)...)
	}
	return out
}

func isEmpty(e api.Entry) bool {
	return e == api.Entry{}
}

// change gives an entry other bytes: the patch's number.
func (d *directory) change(where spot, bytes []byte, needs []int) (int, api.Errno) {
	return d.v.Change(where.block, where.at, bytes, needs)
}

// behindInode is some needs, and what the directory's inode still has to write:
// an entry that is on the disk is within the size that is there.
func (d *directory) behindInode(needs []int) []int {
	block, _, _ := geom.Inode(d.g, d.ino)
	return slices.Concat(needs, d.v.Pending(block))
}
