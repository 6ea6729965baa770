package vfs

import (
	"slices"
	"testing"

	"bollard/alloc"
	"bollard/api"
	"bollard/names"
)

// dirMove is a CallRename of a directory, by hand: from and to are directories.
type dirMove struct {
	from        int
	name        string
	to          int
	other       string
	moved       []int // the last move
	old, leadTo []int // what the old place, and the way to the new one, wait for
}

// move tells the patches of a directory's new name, and of its old name's going.
func (h hand) move(m dirMove) (n, c int) {
	h.t.Helper()
	ino := h.ok(names.Lookup(h.f.volume, h.f.geom, m.from, m.name))
	up := h.ok(names.Lookup(h.f.volume, h.f.geom, ino, ".."))
	needs := []int{h.links(ino, 1)}
	var p, d []int
	if up != m.to {
		p = []int{h.links(m.to, 1)}
	}
	needs = slices.Concat(needs, p, m.moved, m.old)
	had, e := names.Lookup(h.f.volume, h.f.geom, m.to, m.other)
	if e == api.ErrAbsent {
		n = h.add(m.to, ino, m.other, needs...)
	} else {
		answers(h.t, api.OK, e)
		hadUp := h.ok(names.Lookup(h.f.volume, h.f.geom, had, ".."))
		n = h.set(m.to, ino, m.other, append(needs, h.owed(had)...)...)
		h.links(hadUp, -1, h.clear(had, n))
	}
	if up != m.to {
		d = []int{h.set(ino, m.to, "..", slices.Concat(p, []int{n}, m.leadTo)...)}
	}
	c = h.remove(m.from, m.name, slices.Concat([]int{n}, d, h.way(m.to))...)
	h.links(ino, -1, c)
	if up != m.to {
		h.links(up, -1, append(d, c)...)
	}
	return n, c
}

// TestP21_2PatchesOfDirMoves: CallRename of a directory, all else being on the
// disk.
func TestP21_2PatchesOfDirMoves(t *testing.T) {
	tree := []api.Call{mkdir("/a"), mkdir("/b"), mkdir("/a/x"), mkdir("/b/y")}
	told(t, []telling{
		{"within a directory", tree, true, rename("/a", "/c"), func(h hand) {
			h.move(dirMove{from: 2, name: "a", to: 2, other: "c"})
		}},
		{"into another one", tree, true, rename("/a/x", "/b/c"), func(h hand) {
			h.move(dirMove{from: h.ino("/a"), name: "x", to: h.ino("/b"), other: "c"})
		}},
		{"out of one", tree, true, rename("/a/x", "/c"), func(h hand) {
			h.move(dirMove{from: h.ino("/a"), name: "x", to: 2, other: "c"})
		}},
		{"over one", tree, true, rename("/a/x", "/b/y"), func(h hand) {
			h.move(dirMove{from: h.ino("/a"), name: "x", to: h.ino("/b"), other: "y"})
		}},
		{"over one in the same directory", append(slices.Clone(tree), mkdir("/c")), true, rename("/a", "/c"), func(h hand) {
			h.move(dirMove{from: 2, name: "a", to: 2, other: "c"})
		}},
		{"over one that has to be written", slices.Concat(tree, []api.Call{synced(), create("/b/y/z"), unlink("/b/y/z")}), false, rename("/a/x", "/b/y"), func(h hand) {
			h.move(dirMove{from: h.ino("/a"), name: "x", to: h.ino("/b"), other: "y"})
		}},
		{"into a full one", append(full(), mkdir("/e")), true, rename("/e", "/d/e"), func(h hand) {
			h.move(dirMove{from: 2, name: "e", to: h.ino("/d"), other: "e"})
		}},
		{"onto itself", tree, true, rename("/a", "/a"), func(hand) {}},
	})
}

// second is a call behind a move to another parent that is not on the disk.
func second(name string, ahead []api.Call, first, then api.Call, m dirMove, do func(h hand, m dirMove)) telling {
	return telling{name: name, ahead: append(slices.Clone(ahead), synced(), first), call: then, hand: func(h hand) {
		m.moved = []int{h.f.Volume().Last() - 2} // behind it two inodes have a link less
		do(h, m)
	}}
}

// TestP21_2TheLastMove: what waits for the last move: the next one, and a
// directory's going.
func TestP21_2TheLastMove(t *testing.T) {
	tree := []api.Call{mkdir("/a"), mkdir("/b"), mkdir("/c"), mkdir("/a/x"), mkdir("/b/y")}
	moves := func(h hand, m dirMove) { h.move(m) }
	goes := func(h hand, m dirMove) {
		ino := h.ok(names.Lookup(h.f.volume, h.f.geom, m.from, m.name))
		h.links(m.from, -1, h.clear(ino, h.remove(m.from, m.name, append(h.owed(ino), m.moved...)...)))
	}
	first := rename("/a/x", "/b/x")
	told(t, []telling{
		second("another one within a directory", tree, first, rename("/c", "/d"), dirMove{from: 2, name: "c", to: 2, other: "d"}, moves),
		second("another one over one", tree, first, rename("/c", "/a"), dirMove{from: 2, name: "c", to: 2, other: "a"}, moves),
		second("one is taken away", tree, first, rmdir("/c"), dirMove{from: 2, name: "c"}, goes),
		second("the one that it was in is taken away", tree, first, rmdir("/a"), dirMove{from: 2, name: "a"}, goes),
	})
}

// TestP21_5PatchesThatWait: what must be on the disk beside what the chapter
// lists, or scan would refuse the disk's image: the names of a directory that
// is moved to another parent, and of those that lead to the old place, ahead of
// its new name; the names of those that lead to the new place ahead of its .. ;
// and a name's going ahead of the same name elsewhere.
func TestP21_5PatchesThatWait(t *testing.T) {
	told(t, []telling{
		{"a new directory into a new one", []api.Call{mkdir("/a"), mkdir("/b"), mkdir("/a/x")}, false, rename("/a/x", "/b/c"), func(h hand) {
			h.move(dirMove{from: h.ino("/a"), name: "x", to: h.ino("/b"), other: "c", old: []int{h.lasts[0], h.lasts[2]}, leadTo: []int{h.lasts[1]}})
		}},
		{"a new directory within one", []api.Call{mkdir("/a"), mkdir("/a/x")}, false, rename("/a/x", "/a/y"), func(h hand) {
			h.move(dirMove{from: h.ino("/a"), name: "x", to: h.ino("/a"), other: "y"})
		}},
		{"out of a new one", []api.Call{mkdir("/a"), mkdir("/a/x")}, false, rename("/a/x", "/x"), func(h hand) {
			h.move(dirMove{from: h.ino("/a"), name: "x", to: 2, other: "x", old: []int{h.lasts[0], h.lasts[1]}})
		}},
		{"an old directory into a new one", []api.Call{mkdir("/x"), synced(), mkdir("/a"), mkdir("/a/b")}, false, rename("/x", "/a/b/x"), func(h hand) {
			h.move(dirMove{from: 2, name: "x", to: h.ino("/a/b"), other: "x", leadTo: []int{h.lasts[2], h.lasts[3]}})
		}},
		{"a name that a move took away", []api.Call{create("/z"), closed(0), mkdir("/a"), mkdir("/b"), synced(), unlink("/z"), rename("/a", "/b/a")}, false, create("/a"), func(h hand) {
			gone := h.f.Volume().Last() - 2 // behind it two inodes have a link less
			ino, a, e := alloc.Inode(h.f.volume, h.f.geom, 0, false)
			answers(h.t, api.OK, e)
			i := h.put(ino, api.Dinode{Mode: api.ModeFile, Links: 1}, a)
			h.add(2, ino, "a", i, gone)
		}},
	})
}
