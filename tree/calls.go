package tree

import (
	"maps"
	"slices"

	"bollard/api"
)

func (t *Tree) mkdir(path string) api.Errno {
	s, why := t.vacant(path)
	switch {
	case why != api.OK:
		return why
	case !t.nodes[s.dir()].mayLinkMore():
		return api.ErrLinks
	}
	t.name(s, t.add(newDir()))
	return api.OK
}

func (t *Tree) create(path string) (api.Answer, api.Errno) {
	s, why := t.vacant(path)
	if why != api.OK {
		return api.Answer{}, why
	}
	fd, some := t.freeDescriptor()
	if !some {
		return api.Answer{}, api.ErrMany
	}
	number := t.add(newFile())
	t.name(s, number)
	t.files[fd] = number
	return api.Answer{N: fd}, api.OK
}

func (t *Tree) open(path string) (api.Answer, api.Errno) {
	number, why := t.thing(path)
	switch {
	case why != api.OK:
		return api.Answer{}, why
	case t.nodes[number].isDir():
		return api.Answer{}, api.ErrDir
	}
	fd, some := t.freeDescriptor()
	if !some {
		return api.Answer{}, api.ErrMany
	}
	t.files[fd] = number
	return api.Answer{N: fd}, api.OK
}

func (t *Tree) close(fd int) api.Errno {
	if _, why := t.file(fd); why != api.OK {
		return why
	}
	t.letGo(fd)
	return api.OK
}

func (t *Tree) read(fd, off, n int) (api.Answer, api.Errno) {
	c, why := t.file(fd)
	switch {
	case why != api.OK:
		return api.Answer{}, why
	case off < 0 || n < 0:
		return api.Answer{}, api.ErrArg
	}
	b := c.read(off, n)
	return api.Answer{N: len(b), Bytes: b}, api.OK
}

func (t *Tree) write(fd, off int, b []byte) (api.Answer, api.Errno) {
	c, why := t.file(fd)
	switch {
	case why != api.OK:
		return api.Answer{}, why
	case off < 0:
		return api.Answer{}, api.ErrArg
	case off > api.MaxFile-len(b): // their sum might be more than an int has
		return api.Answer{}, api.ErrBig
	}
	c.write(off, b)
	return api.Answer{N: len(b)}, api.OK
}

func (t *Tree) truncate(fd, size int) api.Errno {
	c, why := t.file(fd)
	switch {
	case why != api.OK:
		return why
	case size < 0:
		return api.ErrArg
	case size > api.MaxFile:
		return api.ErrBig
	}
	c.resize(size)
	return api.OK
}

func (t *Tree) fsync(fd int) api.Errno {
	_, why := t.file(fd)
	return why
}

func (t *Tree) unlink(path string) api.Errno {
	s, number, why := t.named(path)
	switch {
	case why != api.OK:
		return why
	case t.nodes[number].isDir():
		return api.ErrDir
	}
	t.unname(s)
	return api.OK
}

func (t *Tree) rmdir(path string) api.Errno {
	s, number, why := t.named(path)
	switch {
	case why != api.OK:
		return why
	case !t.nodes[number].isDir():
		return api.ErrNotDir
	case len(t.nodes[number].names) > 0:
		return api.ErrFull
	}
	t.unname(s)
	return api.OK
}

func (t *Tree) link(path, other string) api.Errno {
	_, number, why := t.named(path)
	switch {
	case why != api.OK:
		return why
	case t.nodes[number].isDir():
		return api.ErrDir
	case other == slash:
		return api.ErrArg
	}
	s, why := t.vacant(other)
	switch {
	case why != api.OK:
		return why
	case !t.nodes[number].mayLinkMore():
		return api.ErrLinks
	}
	t.name(s, number)
	return api.OK
}

func (t *Tree) rename(path, other string) api.Errno {
	from, number, why := t.named(path)
	if why != api.OK {
		return why
	}
	to, why := t.parent(other)
	switch {
	case why != api.OK:
		return why
	case slices.Contains(to.way, number):
		return api.ErrLoop
	}
	replaced, there := t.at(to)
	switch {
	case there && replaced == number:
		return api.OK
	case there:
		why = refusalReplace(t.nodes[number], t.nodes[replaced])
	case t.nodes[number].isDir() && from.dir() != to.dir() && !t.nodes[to.dir()].mayLinkMore():
		why = api.ErrLinks
	}
	switch {
	case why != api.OK:
		return why
	case !t.nodes[number].mayLinkMore():
		return api.ErrLinks
	}
	if there {
		t.unname(to)
	}
	t.name(to, number) // ahead of the old name's going, so that it always has one
	t.unname(from)
	return api.OK
}

// refusalReplace is why a node may not stand where another one does.
func refusalReplace(n, replaced *node) api.Errno {
	switch {
	case n.isDir() && !replaced.isDir():
		return api.ErrNotDir
	case !n.isDir() && replaced.isDir():
		return api.ErrDir
	case len(replaced.names) > 0:
		return api.ErrFull
	}
	return api.OK
}

func (t *Tree) stat(path string) (api.Answer, api.Errno) {
	number, why := t.thing(path)
	if why != api.OK {
		return api.Answer{}, why
	}
	n := t.nodes[number]
	return api.Answer{Mode: n.mode, Links: n.links(), Size: n.content.size}, api.OK
}

func (t *Tree) list(path string) (api.Answer, api.Errno) {
	number, why := t.thing(path)
	switch {
	case why != api.OK:
		return api.Answer{}, why
	case !t.nodes[number].isDir():
		return api.Answer{}, api.ErrNotDir
	}
	return api.Answer{Names: slices.Sorted(maps.Keys(t.nodes[number].names))}, api.OK
}

// file is the bytes of a descriptor's file.
func (t *Tree) file(fd int) (*content, api.Errno) {
	if fd < 0 || fd >= api.MaxFDs || t.files[fd] == 0 {
		return nil, api.ErrFD
	}
	return &t.nodes[t.files[fd]].content, api.OK
}

// freeDescriptor is the lowest one that has no file.
func (t *Tree) freeDescriptor() (int, bool) {
	fd := slices.Index(t.files[:], 0)
	if fd < 0 {
		return 0, false
	}
	return fd, true
}
