package scan

import (
	"slices"
	"strconv"
	"testing"

	"bollard/api"
)

// village has a root with a directory "d" (3) and a file "f" (4), all of whose
// links are far too many.
func village() *world {
	w := newWorld(api.Geom{Groups: 2, Blocks: 64, Inodes: 16})
	w.page(2, 0, entry(2, "."), entry(2, ".."), entry(3, "d"), entry(4, "f"))
	w.links(2, 1000)
	w.add(3, api.ModeDir)
	w.page(3, 0, entry(3, "."), entry(2, ".."))
	w.links(3, 1000)
	w.add(4, api.ModeFile)
	w.links(4, 1000)
	return w
}

// dir adds a directory with a name in another one, at a place of its first
// block.
func (w *world) dir(ino, parent, place int, name string) {
	w.add(ino, api.ModeDir)
	w.page(ino, 0, entry(ino, "."), entry(parent, ".."))
	w.links(ino, 1000)
	w.slot(parent, 0, place, entry(ino, name))
}

func reaches(t *testing.T, w *world, want ...int) {
	t.Helper()
	l, e := Reach(w.image)
	if e != api.OK || !slices.Equal(l, want) {
		t.Fatal(l, e, want)
	}
}

// TestP18_1Blocks: each block of a directory's Size must be there, and may be;
// those behind play no part.
func TestP18_1Blocks(t *testing.T) {
	w := village()
	w.edit(3, func(d *api.Dinode) { d.Size = 0 })
	refused(t, api.ErrShape, w.image) // no .

	w = village()
	w.page(3, 2, entry(4, "x"))
	refused(t, api.ErrShape, w.image) // no block 1
	w.page(3, 1)
	reaches(t, w, 2, 3, 4)

	w = village()
	w.edit(3, func(d *api.Dinode) { d.Size = api.MaxFile })
	refused(t, api.ErrShape, w.image)

	w = village()
	w.image[w.grow(3, 1)][0] = 1 // an inode without a name
	answers(t, api.OK, Accept(w.image))
	w.edit(3, func(d *api.Dinode) { d.Size = 256 })
	refused(t, api.ErrShape, w.image)
}

// TestP18_1IndirectDirectory: the blocks by Single and Double are a directory's
// like any others.
func TestP18_1IndirectDirectory(t *testing.T) {
	w := newWorld(api.Geom{Groups: 2, Blocks: 128, Inodes: 8})
	w.page(2, 0, entry(2, "."), entry(2, ".."))
	const pages = 4 + 64 + 66 // two blocks lie below the second place of Double
	for i := 1; i < pages; i++ {
		w.page(2, i)
	}
	for place, i := range []int{3, 4, 67, 68, 131, 132, 133} {
		w.add(3+place, api.ModeFile)
		w.slot(2, i, place, entry(3+place, "f"+strconv.Itoa(i)))
	}
	reaches(t, w, 2, 3, 4, 5, 6, 7, 8, 9)
	for _, i := range []int{4, 67, 68, 133} {
		v := w.copyOf()
		v.slot(2, i, 7, entry(3, "f3"))
		refused(t, api.ErrShape, v.image)
		v = w.copyOf()
		switch {
		case i < 68:
			v.fan(v.get(2).Single, i-4, 0)
		default:
			v.fan(v.fanAt(v.get(2).Double, (i-68)/64), (i-68)%64, 0)
		}
		refused(t, api.ErrShape, v.image)
	}
	w.edit(2, func(d *api.Dinode) { d.Size -= 128 })
	reaches(t, w, 2, 3, 4, 5, 6, 7, 8)
	w.edit(2, func(d *api.Dinode) { d.Size = 4 * 128 })
	reaches(t, w, 2, 3)
}

// TestP18_1OneName: twice in one block, in two blocks, and . and .. as well.
func TestP18_1OneName(t *testing.T) {
	for _, name := range []string{".", "..", "x"} {
		w := village()
		w.slot(3, 0, 5, entry(4, "x"))
		w.page(3, 1, api.Entry{}, entry(4, "y"))
		answers(t, api.OK, Accept(w.image))
		v := w.copyOf()
		v.slot(3, 0, 6, entry(3, name))
		refused(t, api.ErrShape, v.image)
		w.slot(3, 1, 0, entry(3, name))
		refused(t, api.ErrShape, w.image)
	}
	w := village()
	w.slot(3, 0, 5, entry(4, "d")) // in another directory it is another name
	w.slot(3, 0, 6, entry(4, "D"))
	answers(t, api.OK, Accept(w.image))
}

// TestP18_1Dot: . must be there, and name the directory itself.
func TestP18_1Dot(t *testing.T) {
	for _, ino := range []int{2, 4, 1, 30, 511} {
		w := village()
		w.slot(3, 0, 0, entry(ino, "."))
		refused(t, api.ErrShape, w.image)
	}
	w := village()
	w.slot(3, 0, 0, api.Entry{})
	refused(t, api.ErrShape, w.image)
	w.page(3, 1, entry(3, "."))
	answers(t, api.OK, Accept(w.image))
}

// TestP18_1EntryOut: inodes that there are not, and that are not used; in ..
// as well.
func TestP18_1EntryOut(t *testing.T) {
	for _, ino := range []int{1, 5, 31, 32, 33, 511} {
		w := village()
		if ino < 32 {
			w.inode(ino, true)
		}
		w.slot(3, 0, 7, entry(ino, "x"))
		refused(t, api.ErrOut, w.image)

		w = village()
		w.slot(3, 0, 1, entry(ino, ".."))
		refused(t, api.ErrOut, w.image)
	}
	w := village()
	w.add(31, api.ModeFile)
	w.slot(3, 0, 7, entry(31, "x"))
	reaches(t, w, 2, 3, 4, 31)
	w.inode(31, false)
	refused(t, api.ErrUnset, w.image)
}

// TestP18_1EntryOrder: of one directory ErrShape comes ahead of ErrOut, and that
// ahead of ErrUnset, wherever the entries stand.
func TestP18_1EntryOrder(t *testing.T) {
	w := village()
	w.add(30, api.ModeFile)
	w.inode(30, false)
	w.slot(3, 0, 2, entry(30, "unset"))
	refused(t, api.ErrUnset, w.image)
	w.slot(3, 0, 5, entry(29, "out"))
	refused(t, api.ErrOut, w.image)
	w.slot(3, 0, 6, entry(4, "out"))
	refused(t, api.ErrShape, w.image)
}

// TestP18_1BreadthFirst: of two directories that are refused the one that is
// met first tells; all of one depth, as they are met, ahead of those below.
func TestP18_1BreadthFirst(t *testing.T) {
	for _, c := range []struct {
		first, second int
	}{{9, 5}, {5, 8}, {9, 8}, {8, 7}, {2, 9}} {
		w := village()
		w.slot(2, 0, 2, api.Entry{})
		w.dir(9, 2, 2, "z")
		w.dir(5, 2, 4, "a")
		w.dir(8, 9, 2, "below") // ahead of 7 as 9 is ahead of 5, and behind 5
		w.dir(7, 5, 2, "below")
		answers(t, api.OK, Accept(w.image))
		v := w.copyOf()
		w.slot(c.first, 0, 6, entry(511, "x"))
		w.slot(c.second, 0, 0, api.Entry{})
		refused(t, api.ErrOut, w.image)
		v.slot(c.first, 0, 0, api.Entry{})
		v.slot(c.second, 0, 6, entry(511, "x"))
		refused(t, api.ErrShape, v.image)
	}
}

// TestP18_1NotReached: directories to which no name leads may be anything.
func TestP18_1NotReached(t *testing.T) {
	w := village()
	w.slot(2, 0, 2, api.Entry{}) // so 3 is reached no more
	w.page(3, 0, entry(4, "x"), entry(511, "y"))
	reaches(t, w, 2, 4)
	w.links(4, 1) // the name in it is none that counts
	answers(t, api.OK, Accept(w.image))
}

// TestP18_1DotsLeadNowhere: by . and .. nothing is reached.
func TestP18_1DotsLeadNowhere(t *testing.T) {
	w := village()
	w.add(9, api.ModeDir)
	w.page(9, 0, entry(9, "."), entry(2, ".."), entry(4, "x"))
	w.slot(3, 0, 1, entry(9, ".."))
	refused(t, api.ErrShape, w.image) // 9 is no directory that is reached
	w.slot(9, 0, 3, entry(3, "d"))
	refused(t, api.ErrShape, w.image)
	w.slot(2, 0, 5, entry(9, "nine"))
	answers(t, api.ErrLow, Accept(w.image)) // just its links are too few now
	w.links(9, 3)
	reaches(t, w, 2, 3, 4, 9)
}

// TestP18_1RingBeside: a directory to which just a .. leads is not gone through,
// though it stands in itself and all of it would do.
func TestP18_1RingBeside(t *testing.T) {
	w := village()
	w.add(9, api.ModeDir)
	w.page(9, 0, entry(9, "."), entry(9, ".."), entry(9, "me"), entry(3, "d"))
	w.links(9, 1000)
	w.slot(3, 0, 1, entry(9, ".."))
	refused(t, api.ErrShape, w.image)
	w.slot(9, 0, 5, entry(511, "far"))
	refused(t, api.ErrShape, w.image) // not ErrOut
}

// TestP18_1Parent: .. names a directory in which it stands, of several any one.
func TestP18_1Parent(t *testing.T) {
	w := village()
	w.dir(9, 3, 2, "below")
	answers(t, api.OK, Accept(w.image))
	w.slot(9, 0, 1, entry(2, ".."))
	refused(t, api.ErrShape, w.image) // it does not stand there
	w.slot(9, 0, 1, entry(9, ".."))
	refused(t, api.ErrShape, w.image) // itself, in which just its . names it
	w.slot(9, 0, 1, entry(4, ".."))
	refused(t, api.ErrShape, w.image) // a file
	w.slot(9, 0, 1, api.Entry{})
	refused(t, api.ErrShape, w.image) // none
	w.slot(2, 0, 6, entry(9, "moved"))
	refused(t, api.ErrShape, w.image)
	for _, up := range []int{2, 3} {
		w.slot(9, 0, 1, entry(up, ".."))
		answers(t, api.OK, Accept(w.image))
	}
	w.slot(9, 0, 1, entry(9, ".."))
	refused(t, api.ErrShape, w.image)
	w.slot(9, 0, 2, entry(9, "me"))
	answers(t, api.OK, Accept(w.image)) // it stands in itself, too
}

// TestP18_1DotsAreNoNames: a .. of the directory that .. names is not enough.
func TestP18_1DotsAreNoNames(t *testing.T) {
	w := village()
	w.dir(9, 3, 2, "below")
	w.dir(10, 9, 2, "deep")
	w.slot(3, 0, 1, entry(9, "..")) // 9 stands in 3, and its .. names 3
	refused(t, api.ErrShape, w.image)
}

// TestP18_1RootParent: the root's .. is the root, also where it stands in
// another directory.
func TestP18_1RootParent(t *testing.T) {
	w := village()
	w.slot(3, 0, 2, entry(2, "top"))
	answers(t, api.OK, Accept(w.image))
	w.slot(2, 0, 1, entry(3, ".."))
	refused(t, api.ErrShape, w.image)
	w.slot(2, 0, 1, api.Entry{})
	refused(t, api.ErrShape, w.image)
}

// TestP18_1ParentsFirst: wrong parents, wherever, come ahead of
// links that are too few.
func TestP18_1ParentsFirst(t *testing.T) {
	w := village()
	w.links(2, 0)
	refused(t, api.ErrLow, w.image)
	w.slot(3, 0, 1, entry(3, ".."))
	refused(t, api.ErrShape, w.image)
}

// TestP18_1Low: each link less than the true ones is refused, and no other.
func TestP18_1Low(t *testing.T) {
	w := village()
	w.slot(3, 0, 2, entry(4, "also"))
	w.slot(3, 0, 3, entry(2, "top"))
	for _, c := range []struct{ ino, isTrue int }{{2, 4}, {3, 2}, {4, 2}} {
		v := w.copyOf()
		for _, says := range []int{0, 1, c.isTrue - 1} {
			v.links(c.ino, says)
			refused(t, api.ErrLow, v.image)
		}
		for _, says := range []int{c.isTrue, c.isTrue + 1, 1000} {
			v.links(c.ino, says)
			answers(t, api.OK, Accept(v.image))
		}
	}
}

// TestP18_1ManyNames: more names than an inode can say.
func TestP18_1ManyNames(t *testing.T) {
	w := newWorld(api.Geom{Groups: 1, Blocks: 256, Inodes: 4})
	w.add(3, api.ModeFile)
	w.links(3, 1000)
	names := 0
	fill := func(i, from, upTo int) {
		for place := from; place < upTo; place++ {
			w.slot(2, i, place, entry(3, "n"+strconv.Itoa(names)))
			names++
		}
	}
	fill(0, 2, 8)
	for i := 1; names < 1000; i++ {
		w.page(2, i)
		fill(i, 0, min(8, 1000-names))
	}
	if l, e := Links(w.image); e != api.OK || l[1] != link(3, 1000, 1000) {
		t.Fatal(l, e)
	}
	w.slot(2, w.get(2).Size/128-1, 7, entry(3, "one-too-many"))
	refused(t, api.ErrLow, w.image)
}

// TestP18_1Deep: each directory of the greatest volume below the one ahead.
func TestP18_1Deep(t *testing.T) {
	w := newWorld(api.Geom{Groups: 8, Blocks: 256, Inodes: 64})
	up := 2
	var want []int
	for ino := 511; ino > 2; ino-- {
		w.dir(ino, up, 2, "x")
		w.links(up, 3)
		up = ino
		want = append(want, ino)
	}
	w.links(2, 3)
	w.links(3, 2)
	slices.Sort(want)
	reaches(t, w, append([]int{2}, want...)...)
	if f, e := Leaks(w.image); e != api.OK || !isClean(f) {
		t.Fatal(f, e)
	}
	w.slot(3, 0, 7, entry(511, "x"))
	refused(t, api.ErrLow, w.image)
}
