package names

import (
	"bollard/api"
	"bollard/dirs"
	"bollard/inode"
	"bollard/whole"
)

// extension is a directory that gets a block more, for an entry.
type extension struct {
	*directory
	entry  api.Entry
	needs  []int
	block  int // the new one
	longer api.Dinode
	ahead  []int // what must be on the disk ahead of the inode
	id     int   // the inode's patch
}

// extend gives a directory a block more, with an entry alone: the number of the
// inode's patch.
func (d *directory) extend(e api.Entry, needs []int) (int, api.Errno) {
	if d.inode.Size == api.MaxFile {
		return 0, api.ErrBig
	}
	x := &extension{directory: d, entry: e, needs: needs}
	if why := whole.Do(d.v, x.grow, x.fill, x.put); why != api.OK {
		return 0, why
	}
	return x.id, api.OK
}

func (x *extension) grow() api.Errno {
	var why api.Errno
	x.block, x.longer, x.ahead, why = inode.Grow(x.v, x.g, x.ino, x.inode, x.size())
	return why
}

func (x *extension) fill() api.Errno {
	bytes, why := dirs.Encode([]api.Entry{x.entry})
	if why != api.OK {
		return why
	}
	id, why := x.v.Change(x.block, 0, bytes, x.needs)
	x.ahead = append(x.ahead, id)
	return why
}

func (x *extension) put() api.Errno {
	var why api.Errno
	x.longer.Size += api.Size
	x.id, why = inode.Put(x.v, x.g, x.ino, x.longer, x.ahead)
	return why
}
