package vfs

import (
	"slices"

	"bollard/alloc"
	"bollard/api"
	"bollard/dirs"
	"bollard/geom"
	"bollard/inode"
	"bollard/names"
	"bollard/whole"
)

// change is the patches of one call, made one by one. From the first error on
// nothing is made or read any more. A patch's number is told as a list, which
// the patches that need it are handed; one that is not made is an empty list.
type change struct {
	*FS
	why  api.Errno // the first error
	then []func()  // what is left to do when all patches are made
}

// change makes the patches of a call: all of them, or, with an error, none.
func (f *FS) change(patches func(c *change)) api.Errno {
	c := &change{FS: f}
	why := whole.Do(f.volume, func() api.Errno {
		patches(c)
		return c.why
	})
	if why != api.OK {
		return why
	}
	for _, do := range c.then {
		do()
	}
	f.forget()
	return api.OK
}

// after keeps something to do for when all patches are made.
func (c *change) after(do func()) {
	c.then = append(c.then, do)
}

// try does a part of the change, unless there was an error.
func (c *change) try(part func() api.Errno) {
	if c.why == api.OK {
		c.why = part()
	}
}

// patch makes one: its number.
func (c *change) patch(one func() (int, api.Errno)) []int {
	var ids []int
	c.try(func() api.Errno {
		id, why := one()
		ids = []int{id}
		return why
	})
	return ids
}

// create makes a new file: its inode.
func (c *change) create(at spot) int {
	ino, allocated := c.inode(at.dir, false)
	made := c.put(ino, api.Dinode{Mode: api.ModeFile, Links: 1}, allocated)
	c.name(at, ino, made)
	return ino
}

func (c *change) mkdir(at spot) {
	linked := c.more(at.dir)
	ino, allocated := c.inode(at.dir, true)
	block, given := c.block(ino)
	filled := c.page(block, []api.Entry{{Ino: ino, Name: self}, {Ino: at.dir, Name: parent}}, given)
	d := api.Dinode{Mode: api.ModeDir, Links: ownLinks, Size: api.Size, Direct: [api.Direct]int{block}}
	made := c.put(ino, d, allocated, filled)
	c.nameDir(at, ino, made, linked)
}

// inode allocates one near another: its number, and the patch's.
func (c *change) inode(near int, dir bool) (int, []int) {
	ino := none
	ids := c.patch(func() (id int, why api.Errno) {
		group, _, _ := geom.Owner(c.geom, near)
		ino, id, why = alloc.Inode(c.volume, c.geom, group, dir)
		return id, why
	})
	return ino, ids
}

// block allocates one near an inode: its address, and the patch's number.
func (c *change) block(near int) (int, []int) {
	block := 0
	ids := c.patch(func() (id int, why api.Errno) {
		group, _, _ := geom.Owner(c.geom, near)
		block, id, why = alloc.Block(c.volume, c.geom, group, nil)
		return id, why
	})
	return block, ids
}

// page fills a block with entries.
func (c *change) page(block int, entries []api.Entry, needs ...[]int) []int {
	return c.patch(func() (int, api.Errno) {
		bytes, why := dirs.Encode(entries)
		if why != api.OK {
			return 0, why
		}
		return c.volume.Change(block, 0, bytes, slices.Concat(needs...))
	})
}

func (c *change) put(ino int, d api.Dinode, needs ...[]int) []int {
	return c.patch(func() (int, api.Errno) {
		return inode.Put(c.volume, c.geom, ino, d, slices.Concat(needs...))
	})
}

// more gives an inode a link more.
func (c *change) more(ino int) []int {
	d := c.dinode(ino)
	d.Links++
	return c.put(ino, d)
}

// less gives an inode, which stays, a link less.
func (c *change) less(ino int, needs ...[]int) {
	d := c.dinode(ino)
	d.Links--
	c.put(ino, d, needs...)
}

// lessFile gives a file a link less; with the last one it goes, unless it is
// open.
func (c *change) lessFile(ino int, needs ...[]int) {
	if c.dinode(ino).Links > 1 || c.isOpen(ino) {
		c.less(ino, needs...)
		return
	}
	c.clear(ino, needs...)
}

func (c *change) clear(ino int, needs ...[]int) []int {
	return c.patch(func() (int, api.Errno) {
		return inode.Clear(c.volume, c.geom, ino, slices.Concat(needs...))
	})
}

// clearDir has a directory go; behind that the parent that it named has a link
// less.
func (c *change) clearDir(ino int, needs ...[]int) {
	up := c.up(ino)
	c.less(up, c.clear(ino, needs...))
}

// name has a name, which is there or not, lead to an inode. A new one waits
// until the same name is gone from the disk: it may stand in another place
// there, and no directory may have a name twice.
func (c *change) name(at spot, ino int, needs ...[]int) []int {
	return c.patch(func() (int, api.Errno) {
		behind := slices.Concat(needs...)
		if at.ino != none {
			return names.Set(c.volume, c.geom, at.dir, at.name, ino, behind)
		}
		behind = append(behind, c.trail.gone[at.place]...)
		return names.Add(c.volume, c.geom, at.dir, api.Entry{Ino: ino, Name: at.name}, behind)
	})
}

// nameDir is name of a directory.
func (c *change) nameDir(at spot, ino int, needs ...[]int) []int {
	named := c.name(at, ino, needs...)
	c.after(func() { c.trail.named[ino] = named })
	return named
}

func (c *change) remove(at spot, needs ...[]int) []int {
	removed := c.patch(func() (int, api.Errno) {
		return names.Remove(c.volume, c.geom, at.dir, at.name, slices.Concat(needs...))
	})
	c.after(func() { c.trail.gone[at.place] = removed })
	return removed
}

// setUp has a directory name another parent.
func (c *change) setUp(dir, up int, needs ...[]int) []int {
	return c.patch(func() (int, api.Errno) {
		return names.Set(c.volume, c.geom, dir, parent, up, slices.Concat(needs...))
	})
}
