package vfs

import (
	"slices"

	"bollard/api"
	"bollard/names"
)

func (f *FS) mkdir(c api.Call) (api.Answer, api.Errno) {
	at, why := f.unused(c.Path)
	if why != api.OK {
		return api.Answer{}, why
	}
	dir, why := f.get(at.dir)
	if why != api.OK {
		return api.Answer{}, why
	}
	if why := refusalLinks(dir); why != api.OK {
		return api.Answer{}, why
	}
	return api.Answer{}, f.change(func(c *change) { c.mkdir(at) })
}

func (f *FS) create(c api.Call) (api.Answer, api.Errno) {
	at, why := f.unused(c.Path)
	if why != api.OK {
		return api.Answer{}, why
	}
	fd, why := f.freeDescriptor()
	if why != api.OK {
		return api.Answer{}, why
	}
	ino := none
	if why := f.change(func(c *change) { ino = c.create(at) }); why != api.OK {
		return api.Answer{}, why
	}
	f.files[fd] = ino
	return api.Answer{N: fd}, api.OK
}

func (f *FS) unlink(c api.Call) (api.Answer, api.Errno) {
	at, _, why := f.namedFile(c.Path)
	if why != api.OK {
		return api.Answer{}, why
	}
	return api.Answer{}, f.change(func(c *change) { c.lessFile(at.ino, c.remove(at)) })
}

func (f *FS) rmdir(c api.Call) (api.Answer, api.Errno) {
	at, why := f.named(c.Path)
	if why != api.OK {
		return api.Answer{}, why
	}
	d, why := f.get(at.ino)
	switch {
	case why != api.OK:
		return api.Answer{}, why
	case !isDir(d):
		return api.Answer{}, api.ErrNotDir
	}
	if why := f.refusalGo(at.ino, d); why != api.OK {
		return api.Answer{}, why
	}
	return api.Answer{}, f.change(func(c *change) {
		c.clearDir(at.ino, c.remove(at, c.owed(at.ino), c.trail.moved))
	})
}

func (f *FS) link(c api.Call) (api.Answer, api.Errno) {
	from, d, why := f.namedFile(c.Path)
	if why != api.OK {
		return api.Answer{}, why
	}
	to, why := f.vacant(c.Other)
	if why != api.OK {
		return api.Answer{}, why
	}
	if why := refusalLinks(d); why != api.OK {
		return api.Answer{}, why
	}
	return api.Answer{}, f.change(func(c *change) { c.name(to, from.ino, c.more(from.ino)) })
}

func (f *FS) stat(c api.Call) (api.Answer, api.Errno) {
	_, d, why := f.thing(c.Path)
	switch {
	case why != api.OK:
		return api.Answer{}, why
	case isDir(d):
		d.Size = 0 // that of its blocks is nothing to users
	}
	return api.Answer{Mode: d.Mode, Links: d.Links, Size: d.Size}, api.OK
}

func (f *FS) list(c api.Call) (api.Answer, api.Errno) {
	ino, why := names.Walk(f.volume, f.geom, c.Path)
	if why != api.OK {
		return api.Answer{}, why
	}
	entries, why := names.List(f.volume, f.geom, ino)
	if why != api.OK {
		return api.Answer{}, why
	}
	var list []string
	for _, e := range entries {
		if e.Name != self && e.Name != parent {
			list = append(list, e.Name)
		}
	}
	slices.Sort(list)
	return api.Answer{Names: list}, api.OK
}
