package vfs

import (
	"bollard/api"
	"bollard/dirs"
	"bollard/inode"
	"bollard/names"
)

const (
	slash  = "/"
	self   = "."
	parent = ".."
	none   = 0 // no inode

	ownLinks = 2 // those that a directory has without others in it
)

// place is a name in a directory.
type place struct {
	dir  int
	name string
}

// spot is a place where a name stands, or could, and what has it; none, if it
// is not there.
type spot struct {
	place
	ino int
}

// spot is that of a path's last name. The path / has no name, and is refused.
func (f *FS) spot(path string) (spot, api.Errno) {
	parts, name, why := dirs.Base(path)
	if why != api.OK {
		return spot{}, why
	}
	dir := api.Root
	for _, part := range parts {
		if dir, why = f.lookup(dir, part); why != api.OK {
			return spot{}, why
		}
	}
	ino, why := f.lookup(dir, name)
	switch why {
	case api.OK, api.ErrAbsent:
		return spot{place: place{dir: dir, name: name}, ino: ino}, api.OK
	}
	return spot{}, why
}

// named is where a name stands that there is.
func (f *FS) named(path string) (spot, api.Errno) {
	s, why := f.spot(path)
	switch {
	case why != api.OK:
		return spot{}, why
	case s.ino == none:
		return spot{}, api.ErrAbsent
	}
	return s, api.OK
}

// namedFile is where the name of a file stands, and the file.
func (f *FS) namedFile(path string) (spot, api.Dinode, api.Errno) {
	s, why := f.named(path)
	if why != api.OK {
		return spot{}, api.Dinode{}, why
	}
	d, why := f.get(s.ino)
	switch {
	case why != api.OK:
		return spot{}, api.Dinode{}, why
	case isDir(d):
		return spot{}, api.Dinode{}, api.ErrDir
	}
	return s, d, api.OK
}

// vacant is where a name could stand that there is not.
func (f *FS) vacant(path string) (spot, api.Errno) {
	s, why := f.spot(path)
	switch {
	case why != api.OK:
		return spot{}, why
	case s.ino != none:
		return spot{}, api.ErrExists
	}
	return s, api.OK
}

// unused is where a new thing's name could stand; something has the path / .
func (f *FS) unused(path string) (spot, api.Errno) {
	if path == slash {
		return spot{}, api.ErrExists
	}
	return f.vacant(path)
}

// thing is what a path leads to: its number, and itself.
func (f *FS) thing(path string) (int, api.Dinode, api.Errno) {
	ino, why := names.Walk(f.volume, f.geom, path)
	if why != api.OK {
		return none, api.Dinode{}, why
	}
	d, why := f.get(ino)
	return ino, d, why
}

func (f *FS) lookup(dir int, name string) (int, api.Errno) {
	return names.Lookup(f.volume, f.geom, dir, name)
}

func (f *FS) get(ino int) (api.Dinode, api.Errno) {
	return inode.Get(f.volume, f.geom, ino)
}

// refusalLinks is why an inode may not have a link more.
func refusalLinks(d api.Dinode) api.Errno {
	if d.Links >= api.MaxLinks {
		return api.ErrLinks
	}
	return api.OK
}

// refusalGo is why a directory may not go.
func (f *FS) refusalGo(ino int, d api.Dinode) api.Errno {
	empty, why := names.Empty(f.volume, f.geom, ino)
	switch {
	case why != api.OK:
		return why
	case !empty:
		return api.ErrFull
	case d.Links > ownLinks: // a crash left it so
		return api.ErrState
	}
	return api.OK
}

func isDir(d api.Dinode) bool {
	return d.Mode == api.ModeDir
}
