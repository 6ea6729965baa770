package audit

import (
	"bollard/api"
	"bollard/geom"
	"bollard/tree"
)

const slash = "/"

// builder makes a tree of what an image has, by users' calls.
type builder struct {
	*contents
	tree  *tree.Tree
	paths []string // by inode: its first path; "": it has none yet
	dirs  []int    // the directories that have one, in the order in which they were met
}

func newBuilder(c *contents) *builder {
	b := &builder{contents: c, tree: tree.New(), paths: make([]string, geom.Inodes(c.geom))}
	b.meet(api.Root, slash)
	return b
}

// build goes breadth first through all that the root leads to, and tells whether
// a tree can have it.
func (b *builder) build() bool {
	for at := 0; at < len(b.dirs); at++ { // it grows while it is gone through
		dir := b.dirs[at]
		for _, e := range b.entries(b.inode(dir)) {
			if !b.add(e.Ino, below(b.paths[dir], e.Name)) {
				return false
			}
		}
	}
	return true
}

// meet notes a directory's only path.
func (b *builder) meet(dir int, path string) {
	b.paths[dir] = path
	b.dirs = append(b.dirs, dir)
}

// add gives what an entry names its path, if it may have that. A directory may
// not have two: no call makes such a one, though a crash can leave it.
func (b *builder) add(ino int, path string) bool {
	d, first := b.inode(ino), b.paths[ino]
	switch {
	case d.Mode == api.ModeDir && first != "":
		return false
	case d.Mode == api.ModeDir:
		b.meet(ino, path)
		return b.does(api.Call{Kind: api.CallMkdir, Path: path})
	case first != "":
		return b.does(api.Call{Kind: api.CallLink, Path: first, Other: path})
	}
	b.paths[ino] = path
	return b.addFile(d, path)
}

func (b *builder) addFile(d api.Dinode, path string) bool {
	a, why := b.tree.Do(api.Call{Kind: api.CallCreate, Path: path})
	if why != api.OK {
		return false
	}
	b.copyBytes(d, a.N)
	return b.does(api.Call{Kind: api.CallClose, FD: a.N})
}

// copyBytes writes only the blocks that there are: a file of few blocks may have
// a great Size. It is never refused, since no inode's Size is above MaxFile.
func (b *builder) copyBytes(d api.Dinode, fd int) {
	for i, block := range b.pages(d) {
		if block != 0 {
			b.does(api.Call{Kind: api.CallWrite, FD: fd, Off: i * api.Size, Bytes: b.image[block]})
		}
	}
	b.does(api.Call{Kind: api.CallTruncate, FD: fd, N: d.Size}) // the last block may have bytes behind the end
}

func (b *builder) does(c api.Call) bool {
	_, why := b.tree.Do(c)
	return why == api.OK
}

// below is the path of a name in a directory.
func below(path, name string) string {
	if path == slash {
		return path + name
	}
	return path + slash + name
}
