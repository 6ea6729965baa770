package vfs

import (
	"bollard/api"
	"bollard/names"
)

// move is a CallRename: where the name stands, where it is to stand, and what
// has it.
type move struct {
	from, to spot
	thing    api.Dinode
}

func (f *FS) rename(c api.Call) (api.Answer, api.Errno) {
	m, why := f.findMove(c.Path, c.Other)
	if why != api.OK || m.from.ino == m.to.ino { // nothing happens, if both names are the thing's
		return api.Answer{}, why
	}
	if why := f.refusalReplace(m); why != api.OK {
		return api.Answer{}, why
	}
	if why := refusalLinks(m.thing); why != api.OK {
		return api.Answer{}, why
	}
	if isDir(m.thing) {
		return api.Answer{}, f.moveDir(m)
	}
	return api.Answer{}, f.change(func(c *change) { c.moveFile(m) })
}

// findMove refuses paths that can't be a move's, and a directory into itself.
func (f *FS) findMove(path, other string) (move, api.Errno) {
	from, why := f.named(path)
	if why != api.OK {
		return move{}, why
	}
	to, why := f.spot(other)
	if why != api.OK {
		return move{}, why
	}
	thing, why := f.get(from.ino)
	if why != api.OK {
		return move{}, why
	}
	if isDir(thing) {
		below, why := names.Below(f.volume, f.geom, to.dir, from.ino)
		switch {
		case why != api.OK:
			return move{}, why
		case below:
			return move{}, api.ErrLoop
		}
	}
	return move{from: from, to: to, thing: thing}, api.OK
}

// refusalReplace is why what has the new name, if something has, may not go.
func (f *FS) refusalReplace(m move) api.Errno {
	if m.to.ino == none {
		return api.OK
	}
	replaced, why := f.get(m.to.ino)
	switch {
	case why != api.OK:
		return why
	case isDir(m.thing) && !isDir(replaced):
		return api.ErrNotDir
	case !isDir(m.thing) && isDir(replaced):
		return api.ErrDir
	case isDir(replaced):
		return f.refusalGo(m.to.ino, replaced)
	}
	return api.OK
}

// moveDir asks for a link more of the new parent only if the directory names
// another one now.
func (f *FS) moveDir(m move) api.Errno {
	up, why := f.lookup(m.from.ino, parent)
	if why != api.OK {
		return why
	}
	if up != m.to.dir {
		d, why := f.get(m.to.dir)
		if why != api.OK {
			return why
		}
		if why := refusalLinks(d); why != api.OK {
			return why
		}
	}
	return f.change(func(c *change) { c.moveDir(m, up) })
}

func (c *change) moveFile(m move) {
	linked := c.more(m.from.ino)
	named := c.name(m.to, m.from.ino, linked)
	if m.to.ino != none {
		c.lessFile(m.to.ino, named)
	}
	removed := c.remove(m.from, named, c.way(m.to.dir))
	c.less(m.from.ino, removed)
}

// moveDir moves a directory. Until its old name is gone from the disk it may
// have both there, and no other one is moved, so that no two of them can make a
// ring. A directory that gets another parent needs more: on the disk one must
// come to the parent that it names there, and find it in that. So its new name
// waits until the old one is there, and its .. until one comes to the new
// parent.
func (c *change) moveDir(m move, up int) {
	away := up != m.to.dir
	linked := c.more(m.from.ino)
	var upLinked, old, owed, upSet []int
	if away {
		upLinked = c.more(m.to.dir)
		old = c.reach(m.from.ino)
	}
	if m.to.ino != none {
		owed = c.owed(m.to.ino)
	}
	named := c.nameDir(m.to, m.from.ino, linked, upLinked, c.trail.moved, owed, old)
	if m.to.ino != none {
		c.clearDir(m.to.ino, named)
	}
	if away {
		upSet = c.setUp(m.from.ino, m.to.dir, upLinked, named, c.reach(m.to.dir))
	}
	removed := c.remove(m.from, named, upSet, c.way(m.to.dir))
	c.after(func() { c.trail.moved = removed })
	c.less(m.from.ino, removed)
	if away {
		c.less(up, upSet, removed)
	}
}
