package vfs

import (
	"slices"

	"bollard/api"
	"bollard/file"
	"bollard/inode"
)

func (f *FS) open(c api.Call) (api.Answer, api.Errno) {
	ino, d, why := f.thing(c.Path)
	switch {
	case why != api.OK:
		return api.Answer{}, why
	case isDir(d):
		return api.Answer{}, api.ErrDir
	}
	fd, why := f.freeDescriptor()
	if why != api.OK {
		return api.Answer{}, why
	}
	f.files[fd] = ino
	return api.Answer{N: fd}, api.OK
}

// close clears a file that has neither a name nor a descriptor any more. The
// descriptor goes only then: with an error it has the file still.
func (f *FS) close(c api.Call) (api.Answer, api.Errno) {
	ino, why := f.file(c.FD)
	if why != api.OK {
		return api.Answer{}, why
	}
	if f.descriptors(ino) == 1 {
		if why := f.clearUnnamed(ino); why != api.OK {
			return api.Answer{}, why
		}
	}
	f.files[c.FD] = none
	return api.Answer{}, api.OK
}

func (f *FS) clearUnnamed(ino int) api.Errno {
	d, why := f.get(ino)
	if why != api.OK || d.Links > 0 {
		return why
	}
	_, why = inode.Clear(f.volume, f.geom, ino, nil)
	return why
}

func (f *FS) read(c api.Call) (api.Answer, api.Errno) {
	ino, why := f.file(c.FD)
	switch {
	case why != api.OK:
		return api.Answer{}, why
	case c.Off < 0 || c.N < 0:
		return api.Answer{}, api.ErrArg
	}
	b, why := file.Read(f.volume, f.geom, ino, c.Off, c.N)
	if why != api.OK {
		return api.Answer{}, why
	}
	return api.Answer{N: len(b), Bytes: b}, api.OK
}

// write asks ahead of the inode's being read what file asks behind it: these
// errors come ahead of a disk's.
func (f *FS) write(c api.Call) (api.Answer, api.Errno) {
	ino, why := f.file(c.FD)
	switch {
	case why != api.OK:
		return api.Answer{}, why
	case c.Off < 0:
		return api.Answer{}, api.ErrArg
	case c.Off > api.MaxFile-len(c.Bytes): // their sum might be more than an int has
		return api.Answer{}, api.ErrBig
	}
	if why := f.change(func(ch *change) { ch.write(ino, c.Off, c.Bytes) }); why != api.OK {
		return api.Answer{}, why
	}
	return api.Answer{N: len(c.Bytes)}, api.OK
}

func (f *FS) truncate(c api.Call) (api.Answer, api.Errno) {
	ino, why := f.file(c.FD)
	switch {
	case why != api.OK:
		return api.Answer{}, why
	case c.N < 0:
		return api.Answer{}, api.ErrArg
	case c.N > api.MaxFile:
		return api.Answer{}, api.ErrBig
	}
	return api.Answer{}, f.change(func(ch *change) { ch.truncate(ino, c.N) })
}

func (f *FS) fsync(c api.Call) (api.Answer, api.Errno) {
	if _, why := f.file(c.FD); why != api.OK {
		return api.Answer{}, why
	}
	return f.sync(c)
}

// sync hands over the patches that are pending alone: those that are done play
// no part.
func (f *FS) sync(api.Call) (api.Answer, api.Errno) {
	var ids []int
	for _, b := range f.volume.Dirty() {
		ids = append(ids, f.volume.Pending(b)...)
	}
	return api.Answer{}, f.volume.Sync(ids)
}

// file is the inode that a descriptor has.
func (f *FS) file(fd int) (int, api.Errno) {
	if fd < 0 || fd >= api.MaxFDs || f.files[fd] == none {
		return none, api.ErrFD
	}
	return f.files[fd], api.OK
}

// freeDescriptor is the lowest one that has no inode.
func (f *FS) freeDescriptor() (int, api.Errno) {
	fd := slices.Index(f.files[:], none)
	if fd < 0 {
		return 0, api.ErrMany
	}
	return fd, api.OK
}

// descriptors is how many have an inode.
func (f *FS) descriptors(ino int) int {
	many := 0
	for _, its := range f.files {
		if its == ino {
			many++
		}
	}
	return many
}

func (f *FS) isOpen(ino int) bool {
	return slices.Contains(f.files[:], ino)
}
