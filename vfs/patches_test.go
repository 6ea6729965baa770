package vfs

import (
	"math/rand"
	"reflect"
	"slices"
	"testing"

	"bollard/alloc"
	"bollard/api"
	"bollard/dirs"
	"bollard/file"
	"bollard/inode"
	"bollard/names"
)

// hand makes by hand the patches that chapter 21 lists.
type hand struct {
	t     *testing.T
	f     *FS
	lasts []int // the last patch of each call ahead
}

func (h hand) ok(id int, e api.Errno) int {
	h.t.Helper()
	answers(h.t, api.OK, e)
	return id
}

func (h hand) get(ino int) api.Dinode {
	h.t.Helper()
	d, e := inode.Get(h.f.volume, h.f.geom, ino)
	answers(h.t, api.OK, e)
	return d
}

func (h hand) put(ino int, d api.Dinode, needs ...int) int {
	h.t.Helper()
	return h.ok(inode.Put(h.f.volume, h.f.geom, ino, d, needs))
}

// links puts an inode with so many links more.
func (h hand) links(ino, by int, needs ...int) int {
	h.t.Helper()
	d := h.get(ino)
	d.Links += by
	return h.put(ino, d, needs...)
}

func (h hand) clear(ino int, needs ...int) int {
	h.t.Helper()
	return h.ok(inode.Clear(h.f.volume, h.f.geom, ino, needs))
}

func (h hand) add(dir, ino int, name string, needs ...int) int {
	h.t.Helper()
	return h.ok(names.Add(h.f.volume, h.f.geom, dir, api.Entry{Ino: ino, Name: name}, needs))
}

func (h hand) set(dir, ino int, name string, needs ...int) int {
	h.t.Helper()
	return h.ok(names.Set(h.f.volume, h.f.geom, dir, name, ino, needs))
}

func (h hand) remove(dir int, name string, needs ...int) int {
	h.t.Helper()
	return h.ok(names.Remove(h.f.volume, h.f.geom, dir, name, needs))
}

// owed is what a directory still has to write.
func (h hand) owed(dir int) []int {
	h.t.Helper()
	blocks, e := inode.Span(h.f.volume, h.f.geom, h.get(dir))
	answers(h.t, api.OK, e)
	var ids []int
	for _, b := range blocks {
		ids = append(ids, h.f.volume.Pending(b)...)
	}
	return ids
}

// way is that of a directory.
func (h hand) way(dir int) []int {
	h.t.Helper()
	var ids []int
	for dir != 2 {
		dir = h.ok(names.Lookup(h.f.volume, h.f.geom, dir, ".."))
		ids = append(ids, h.owed(dir)...)
	}
	return ids
}

func (h hand) ino(path string) int {
	h.t.Helper()
	return inodeOf(h.t, h.f, path)
}

func (h hand) create(dir int, name string) {
	h.t.Helper()
	ino, a, e := alloc.Inode(h.f.volume, h.f.geom, dir/h.f.geom.Inodes, false)
	answers(h.t, api.OK, e)
	i := h.put(ino, api.Dinode{Mode: api.ModeFile, Links: 1}, a)
	h.add(dir, ino, name, i)
}

func (h hand) mkdir(dir int, name string) {
	h.t.Helper()
	l := h.links(dir, 1)
	ino, a, e := alloc.Inode(h.f.volume, h.f.geom, dir/h.f.geom.Inodes, true)
	answers(h.t, api.OK, e)
	at, b, e := alloc.Block(h.f.volume, h.f.geom, ino/h.f.geom.Inodes, nil)
	answers(h.t, api.OK, e)
	page, e := dirs.Encode([]api.Entry{{Ino: ino, Name: "."}, {Ino: dir, Name: ".."}})
	answers(h.t, api.OK, e)
	filled := h.ok(h.f.volume.Change(at, 0, page, []int{b}))
	i := h.put(ino, api.Dinode{Mode: api.ModeDir, Links: 2, Size: 128, Direct: [4]int{at}}, a, filled)
	h.add(dir, ino, name, i, l)
}

// telling is a call, and its patches by hand, behind some calls.
type telling struct {
	name  string
	ahead []api.Call
	sync  bool // all of these are on the disk
	call  api.Call
	hand  func(h hand)
}

// alike writes the blocks of two file systems in the same order, which is any:
// the same patches may be written at the same time.
func alike(t *testing.T, seed int64, a, b *FS) {
	t.Helper()
	source := rand.New(rand.NewSource(seed))
	for {
		if x, y := stateOf(t, a), stateOf(t, b); x.last != y.last || !reflect.DeepEqual(x.pending, y.pending) || !slices.Equal(x.ready, y.ready) || !sameImage(x.image, y.image) {
			t.Fatalf("seed %d: %d, want %d; pending %v, want %v; ready %v, want %v", seed, x.last, y.last, x.pending, y.pending, x.ready, y.ready)
		}
		ready := a.Volume().Ready()
		if len(ready) == 0 {
			break
		}
		at := ready[source.Intn(len(ready))]
		for _, f := range []*FS{a, b} {
			answers(t, api.OK, f.Volume().Write(at))
			answers(t, api.OK, f.Volume().Complete(0, true))
		}
	}
	if len(a.Volume().Dirty()) > 0 {
		t.Fatal("not all is on the disk", a.Volume().Dirty())
	}
}

func (c telling) tell(t *testing.T, g api.Geom, seed int64) {
	t.Helper()
	var both [2]*FS
	var lasts []int
	for i := range both {
		f, _ := fresh(t, g)
		lasts = nil
		for _, call := range c.ahead {
			does(t, f, call)
			lasts = append(lasts, f.Volume().Last())
		}
		if c.sync {
			does(t, f, synced())
		}
		both[i] = f
	}
	does(t, both[0], c.call)
	c.hand(hand{t, both[1], lasts})
	alike(t, seed, both[0], both[1])
}

func told(t *testing.T, all []telling) {
	t.Helper()
	for _, c := range all {
		t.Run(c.name, func(t *testing.T) {
			for _, g := range []api.Geom{small, wide, {Groups: 2, Blocks: 32, Inodes: 16}} {
				for seed := range int64(25) {
					c.tell(t, g, seed)
				}
			}
		})
	}
}

// full is a directory /d without an empty entry.
func full() []api.Call {
	calls := []api.Call{mkdir("/d"), create("/a"), closed(0)}
	for _, name := range []string{"1", "2", "3", "4", "5", "6"} {
		calls = append(calls, link("/a", "/d/"+name))
	}
	return calls
}

// TestP21_2PatchesOfNames: CallCreate, CallMkdir, CallUnlink, CallRmdir and
// CallLink make just the patches that are listed, in that order, and each needs
// what is listed.
func TestP21_2PatchesOfNames(t *testing.T) {
	tree := []api.Call{mkdir("/d"), mkdir("/d/e"), create("/a"), create("/d/b"), closed(0), closed(1), link("/a", "/d/l")}
	told(t, []telling{
		{"create", tree, true, create("/d/c"), func(h hand) { h.create(h.ino("/d"), "c") }},
		{"create in the root", nil, true, create("/c"), func(h hand) { h.create(2, "c") }},
		{"create, nothing on the disk", tree, false, create("/d/c"), func(h hand) { h.create(h.ino("/d"), "c") }},
		{"mkdir", tree, true, mkdir("/d/c"), func(h hand) { h.mkdir(h.ino("/d"), "c") }},
		{"mkdir in the root, nothing on the disk", tree, false, mkdir("/c"), func(h hand) { h.mkdir(2, "c") }},
		{"create in a full one", full(), true, create("/d/c"), func(h hand) { h.create(h.ino("/d"), "c") }},
		{"mkdir in a full one", full(), true, mkdir("/d/c"), func(h hand) { h.mkdir(h.ino("/d"), "c") }},
		{"mkdir in a full one, nothing on the disk", full(), false, mkdir("/d/c"), func(h hand) { h.mkdir(h.ino("/d"), "c") }},
		{"unlink, the last name", tree, true, unlink("/d/b"), func(h hand) {
			ino := h.ino("/d/b")
			h.clear(ino, h.remove(h.ino("/d"), "b"))
		}},
		{"unlink, a name left", tree, true, unlink("/a"), func(h hand) {
			ino := h.ino("/a")
			h.links(ino, -1, h.remove(2, "a"))
		}},
		{"unlink, a name left, nothing on the disk", tree, false, unlink("/d/l"), func(h hand) {
			ino := h.ino("/a")
			h.links(ino, -1, h.remove(h.ino("/d"), "l"))
		}},
		{"unlink of what is open", slices.Concat(tree, []api.Call{opened("/d/b")}), true, unlink("/d/b"), func(h hand) {
			ino := h.ino("/d/b")
			h.links(ino, -1, h.remove(h.ino("/d"), "b"))
		}},
		{"rmdir", tree, true, rmdir("/d/e"), func(h hand) {
			ino, up := h.ino("/d/e"), h.ino("/d")
			h.links(up, -1, h.clear(ino, h.remove(up, "e")))
		}},
		{"rmdir, nothing on the disk", slices.Concat(tree, []api.Call{create("/d/e/x"), unlink("/d/e/x")}), false, rmdir("/d/e"), func(h hand) {
			ino, up := h.ino("/d/e"), h.ino("/d")
			h.links(up, -1, h.clear(ino, h.remove(up, "e", h.owed(ino)...)))
		}},
		{"link", tree, true, link("/a", "/d/m"), func(h hand) { h.add(h.ino("/d"), h.ino("/a"), "m", h.links(h.ino("/a"), 1)) }},
		{"link, nothing on the disk", tree, false, link("/a", "/m"), func(h hand) { h.add(2, h.ino("/a"), "m", h.links(h.ino("/a"), 1)) }},
	})
}

// TestP21_2PatchesOfFiles: those of CallWrite, CallTruncate and CallClose, and
// that the other calls make none.
func TestP21_2PatchesOfFiles(t *testing.T) {
	tree := []api.Call{mkdir("/d"), create("/d/a"), write(0, 0, make([]byte, 700))}
	gone := slices.Concat(tree, []api.Call{opened("/d/a"), unlink("/d/a")})
	nothing := func(hand) {}
	told(t, []telling{
		{"write", tree, true, write(0, 500, []byte("abcdefgh")), func(h hand) {
			_, e := file.Write(h.f.volume, h.f.geom, h.ino("/d/a"), 500, []byte("abcdefgh"))
			answers(h.t, api.OK, e)
		}},
		{"write behind the end, nothing on the disk", tree, false, write(0, 900, []byte("abcdefgh")), func(h hand) {
			_, e := file.Write(h.f.volume, h.f.geom, h.ino("/d/a"), 900, []byte("abcdefgh"))
			answers(h.t, api.OK, e)
		}},
		{"write of nothing", tree, false, write(0, 900, nil), nothing},
		{"truncate", tree, true, truncate(0, 150), func(h hand) {
			_, e := file.Truncate(h.f.volume, h.f.geom, h.ino("/d/a"), 150)
			answers(h.t, api.OK, e)
		}},
		{"truncate to what it has", tree, true, truncate(0, 700), nothing},
		{"close", tree, true, closed(0), nothing},
		{"close, another descriptor has it", gone, true, closed(0), nothing},
		{"close of the last one", slices.Concat(gone, []api.Call{closed(0)}), true, closed(1), func(h hand) { h.clear(h.f.files[1]) }},
		{"close of the last one, nothing on the disk", slices.Concat(gone, []api.Call{closed(1)}), false, closed(0), func(h hand) { h.clear(h.f.files[0]) }},
		{"open", tree, true, opened("/d/a"), nothing},
		{"read", tree, true, read(0, 0, 999), nothing},
		{"stat", tree, true, stat("/d/a"), nothing},
		{"list", tree, true, list("/d"), nothing},
	})
}

// TestP21_2PatchesOfFileMoves: CallRename of a file.
func TestP21_2PatchesOfFileMoves(t *testing.T) {
	tree := []api.Call{mkdir("/d"), mkdir("/d/e"), create("/a"), create("/d/b"), closed(0), closed(1)}
	move := func(h hand, from, to int, name, other string) (ino, n int) {
		ino = h.ok(names.Lookup(h.f.volume, h.f.geom, from, name))
		return ino, h.add(to, ino, other, h.links(ino, 1))
	}
	over := func(h hand, from, to int, name, other string) (ino, had, n int) {
		ino = h.ok(names.Lookup(h.f.volume, h.f.geom, from, name))
		had = h.ok(names.Lookup(h.f.volume, h.f.geom, to, other))
		return ino, had, h.set(to, ino, other, h.links(ino, 1))
	}
	told(t, []telling{
		{"within a directory", tree, true, rename("/a", "/c"), func(h hand) {
			ino, n := move(h, 2, 2, "a", "c")
			h.links(ino, -1, h.remove(2, "a", n))
		}},
		{"into another one", tree, true, rename("/a", "/d/e/c"), func(h hand) {
			ino, n := move(h, 2, h.ino("/d/e"), "a", "c")
			h.links(ino, -1, h.remove(2, "a", n))
		}},
		{"into another one, nothing on the disk", tree, false, rename("/a", "/d/e/c"), func(h hand) {
			ino, n := move(h, 2, h.ino("/d/e"), "a", "c")
			h.links(ino, -1, h.remove(2, "a", append(h.way(h.ino("/d/e")), n)...))
		}},
		{"into the root, which has to be written", slices.Concat(tree, []api.Call{synced(), create("/q")}), false, rename("/d/b", "/c"), func(h hand) {
			ino, n := move(h, h.ino("/d"), 2, "b", "c")
			h.links(ino, -1, h.remove(h.ino("/d"), "b", n))
		}},
		{"over one", tree, true, rename("/a", "/d/b"), func(h hand) {
			ino, had, n := over(h, 2, h.ino("/d"), "a", "b")
			h.clear(had, n)
			h.links(ino, -1, h.remove(2, "a", n))
		}},
		{"over one that is open, nothing on the disk", slices.Concat(tree, []api.Call{opened("/d/b")}), false, rename("/a", "/d/b"), func(h hand) {
			ino, had, n := over(h, 2, h.ino("/d"), "a", "b")
			h.links(had, -1, n)
			h.links(ino, -1, h.remove(2, "a", append(h.way(h.ino("/d")), n)...))
		}},
		{"over one that has another name", slices.Concat(tree, []api.Call{link("/d/b", "/l")}), true, rename("/a", "/d/b"), func(h hand) {
			ino, had, n := over(h, 2, h.ino("/d"), "a", "b")
			h.links(had, -1, n)
			h.links(ino, -1, h.remove(2, "a", n))
		}},
		{"of one that is open", slices.Concat(tree, []api.Call{opened("/a")}), true, rename("/a", "/c"), func(h hand) {
			ino, n := move(h, 2, 2, "a", "c")
			h.links(ino, -1, h.remove(2, "a", n))
		}},
		{"onto itself", tree, true, rename("/a", "/a"), func(hand) {}},
		{"onto another name of itself", slices.Concat(tree, []api.Call{link("/a", "/d/l")}), true, rename("/a", "/d/l"), func(hand) {}},
	})
}
