package names

import (
	"testing"

	"bollard/api"
)

func TestP16_3Below(t *testing.T) {
	d, v := opened(t, tower().image) // /d is 3, /d/e is 6, /f is 4
	above := map[int][]int{2: {2}, 3: {3, 2}, 4: {4, 2}, 6: {6, 3, 2}}
	for dir, tops := range above {
		for top := -1; top < 513; top++ {
			want := false
			for _, one := range tops {
				want = want || one == top
			}
			if got, e := Below(v, three, dir, top); got != want || e != api.OK {
				t.Fatal(dir, top, got, e)
			}
		}
		for _, top := range wild() {
			if got, e := Below(v, three, dir, top); got || e != api.OK {
				t.Fatal(dir, top, got, e)
			}
		}
	}
	for _, top := range []int{2, 5, 11, 12} { // a file, a free one and none at all, though they are top itself
		stays(t, d, v, api.ErrNotDir, askBelow(v, three, 5, top), askBelow(v, three, 11, top))
		stays(t, d, v, api.ErrInode, askBelow(v, three, 12, top), askBelow(v, three, -1, top))
	}
	if v.Last() != 0 {
		t.Fatal("something was patched")
	}
}

// TestP16_3Root: the root is where it ends, whatever its .. is, and whether it
// has one.
func TestP16_3Root(t *testing.T) {
	for _, l := range [][]api.Entry{nil, {entry(4, "..")}, {entry(511, "..")}} {
		w := newWorld(three)
		w.dir(2, l)
		w.dir(3, dots(3, 2))
		w.dir(4, dots(4, 2))
		_, v := opened(t, w.image)
		for dir, want := range map[int]bool{2: false, 3: false, 4: true} {
			if got, e := Below(v, three, dir, 4); got != want || e != api.OK {
				t.Fatal(dir, got, e)
			}
		}
	}
}

// TestP16_3Errors: what Lookup of .. tells on the way, unless the top comes
// ahead of it.
func TestP16_3Errors(t *testing.T) {
	w := newWorld(three)
	w.root()
	w.dir(3, dots(3, 4))
	w.dir(4, dots(4, 4)[:1]) // without ..
	w.dir(5, dots(5, 6))
	w.file(6)
	w.dir(7, dots(7, 12)) // an inode that there is not
	w.dir(8, dots(8, 11)) // a free one
	w.dir(9, dots(9, 10))
	w.put(10, api.Dinode{Mode: api.ModeDir, Size: 128}) // without its block
	d, v := opened(t, w.image)
	for dir, want := range map[int]api.Errno{3: api.ErrAbsent, 4: api.ErrAbsent, 5: api.ErrNotDir, 7: api.ErrInode, 8: api.ErrNotDir, 9: api.ErrForm, 10: api.ErrForm} {
		stays(t, d, v, want, askBelow(v, three, dir, 2))
	}
	for _, c := range [][2]int{{3, 3}, {3, 4}, {4, 4}, {5, 6}, {7, 12}, {8, 11}, {9, 10}} {
		if got, e := Below(v, three, c[0], c[1]); !got || e != api.OK {
			t.Fatal(c, got, e)
		}
	}
	stays(t, d, v, api.ErrForm, askBelow(v, three, 10, 10))
}

// TestP16_3Ring: a ring that the root is not in comes to an end.
func TestP16_3Ring(t *testing.T) {
	w := newWorld(three)
	w.root()
	w.dir(3, dots(3, 4))
	w.dir(4, dots(4, 5))
	w.dir(5, dots(5, 3))
	w.dir(6, dots(6, 6))
	_, v := opened(t, w.image)
	for dir := 3; dir < 7; dir++ {
		for top := range 12 {
			want := dir == top || dir < 6 && top >= 3 && top < 6
			if got, e := Below(v, three, dir, top); got != want || e != api.OK {
				t.Fatal(dir, top, got, e)
			}
		}
	}
}

// TestP16_3Long: from the lowest of 510 directories, each in the next, to the
// root.
func TestP16_3Long(t *testing.T) {
	g := api.Geom{Groups: 8, Blocks: 256, Inodes: 64}
	w := newWorld(g)
	w.root()
	for ino := 3; ino < 512; ino++ {
		w.dir(ino, dots(ino, ino-1))
	}
	_, v := opened(t, w.image)
	for _, c := range []struct {
		dir, top int
		want     bool
	}{{511, 2, true}, {511, 3, true}, {511, 510, true}, {300, 2, true}, {300, 301, false}, {511, 1, false}, {3, 511, false}} {
		if got, e := Below(v, g, c.dir, c.top); got != c.want || e != api.OK {
			t.Fatal(c, got, e)
		}
	}
}
