package inode

import (
	"bytes"
	"reflect"
	"slices"
	"testing"

	"bollard/api"
	"bollard/volume"
)

// dirtied is an image whose blocks of data are full of bytes that nobody wants.
func dirtied(g api.Geom) [][]byte {
	image := newImage(g)
	for b := range image {
		if b%g.Blocks >= 2+g.Inodes/4 {
			image[b] = bytes.Repeat([]byte{0xee}, api.Size)
		}
	}
	return image
}

// growth is a Grow of an inode, and what it has to tell: the blocks it gives,
// from above, and the patches that must be ahead, counted from the first one
// that it makes on.
type growth struct {
	was   api.Dinode
	i     int
	given []int
	grown api.Dinode
	ahead []int
}

// growths are of the geometry wide and an inode of group 0, whose first block
// of data is 4, and whose blocks 4 to 9 are taken: 4 is an indirect block with
// the address 8 at place 1; 5 is one with the addresses 6 at place 0 and 7 at
// place 63; 6 and 7 have the address 9 at place 1.
func growths() []growth {
	file := api.Dinode{Mode: api.ModeFile, Links: 1, Size: 5}
	direct := func(k, b int) api.Dinode {
		d := file
		d.Direct[k] = b
		return d
	}
	single, double := file, file
	single.Single, double.Double = 4, 5
	var l []growth
	for k := range 4 {
		l = append(l, growth{file, k, []int{10}, direct(k, 10), []int{1, 2}})
	}
	for _, i := range []int{4, 5, 67} { // nothing, or all but the block, is there
		d := file
		d.Single = 10
		l = append(l, growth{file, i, []int{10, 11}, d, []int{1, 2, 5}})
	}
	for _, i := range []int{4, 6, 67} {
		l = append(l, growth{single, i, []int{10}, single, []int{3}})
	}
	for _, i := range []int{68, 131, 132, 4163} {
		d := file
		d.Double = 10
		l = append(l, growth{file, i, []int{10, 11, 12}, d, []int{1, 2, 5, 8}})
	}
	for _, i := range []int{132, 195, 4036, 4099} {
		l = append(l, growth{double, i, []int{10, 11}, double, []int{3, 6}})
	}
	for _, i := range []int{68, 131, 4100, 4163} {
		l = append(l, growth{double, i, []int{10}, double, []int{3}})
	}
	zero := api.Dinode{Direct: [4]int{10}} // one that a hand made, and no mode has
	return append(l, growth{api.Dinode{}, 0, []int{10}, zero, []int{1, 2}})
}

func grownImage() [][]byte {
	image := dirtied(wide)
	take(image, wide, 4, 5, 6, 7, 8, 9)
	fan(image, 4, 0, 8)
	fan(image, 5, append(append([]int{6}, make([]int, 62)...), 7)...)
	fan(image, 6, 0, 9)
	fan(image, 7, 0, 9)
	return image
}

func TestP13_3Grow(t *testing.T) {
	for _, w := range growths() {
		for _, before := range []int{0, 3} { // patches that are there already
			_, v := open(t, grownImage(), 8)
			for range before {
				_, e := v.Change(3, 0, []byte{1}, nil)
				answers(t, api.OK, e)
			}
			want := now(t, v)
			b, d, ahead, e := Grow(v, wide, 3, w.was, w.i)
			if e != api.OK || b != w.given[len(w.given)-1] || d != w.grown {
				t.Fatalf("%v: %d, %v, %v", w, b, d, e)
			}
			for k := range w.ahead {
				if len(ahead) != len(w.ahead) || ahead[k] != before+w.ahead[k] {
					t.Fatalf("%v: %v ahead", w, ahead)
				}
			}
			if got := v.Last() - before; got != 3*len(w.given)-btoi(w.grown != w.was) {
				t.Fatalf("%v: %d patches", w, got)
			}
			if is := now(t, v); !reflect.DeepEqual(is, w.after(want)) {
				t.Fatalf("%v: other bytes than those of the new blocks, and of one address, have turned", w)
			}
		}
	}
}

func btoi(b bool) int {
	if b {
		return 1
	}
	return 0
}

// after is the image behind it, of what it was ahead.
func (w growth) after(image [][]byte) [][]byte {
	take(image, wide, w.given...)
	for _, b := range w.given {
		clear(image[b])
	}
	var way []int // places in the indirect blocks, from above
	switch {
	case w.i >= 68:
		way = []int{(w.i - 68) / 64, (w.i - 68) % 64}
	case w.i >= 4:
		way = []int{w.i - 4}
	}
	above := w.given[:len(w.given)-1]
	if w.grown == w.was { // the first one is led to by an indirect block
		old := w.was.Single
		if w.i >= 68 {
			old = w.was.Double
			if len(w.given) == 1 {
				old = reader(image).at(old, way[0])
			}
		}
		above = append([]int{old}, above...)
	}
	way = way[len(way)-len(above):]
	for k, b := range above {
		image[b][2*way[k]] = byte(w.given[len(w.given)-len(above)+k])
		image[b][2*way[k]+1] = 0
	}
	return image
}

func TestP13_3Example(t *testing.T) {
	_, v := open(t, newImage(api.Geom{Groups: 1, Blocks: 32, Inodes: 8}), 8)
	b, d, ahead, e := Grow(v, api.Geom{Groups: 1, Blocks: 32, Inodes: 8}, 3, api.Dinode{}, 4)
	if b != 5 || d != (api.Dinode{Single: 4}) || !slices.Equal(ahead, []int{1, 2, 5}) || e != api.OK {
		t.Fatal(b, d, ahead, e)
	}
}

// TestP13_3There: what is there is told, whatever groups have, and nothing is
// patched.
func TestP13_3There(t *testing.T) {
	image := grownImage()
	clear(image[1]) // no header that may be
	clear(image[26])
	_, v := open(t, image, 8)
	d := api.Dinode{Mode: api.ModeDir, Direct: [4]int{0, 2047}, Single: 4, Double: 5}
	for i, want := range map[int]int{1: 2047, 5: 8, 69: 9, 4101: 9} {
		b, same, ahead, e := Grow(v, wide, 3, d, i)
		if b != want || same != d || len(ahead) != 0 || e != api.OK || v.Last() != 0 {
			t.Fatal(i, b, same, ahead, e)
		}
	}
}

// TestP13_3Near: blocks come from the inode's group on, going round.
func TestP13_3Near(t *testing.T) {
	g := small
	for ino := range 12 {
		_, v := open(t, newImage(g), 8)
		group := ino / 4
		d := api.Dinode{}
		for k := range 15 { // all that there are: 5 in each group
			want := (group+k/5)%3*8 + 3 + k%5
			i := k
			if k > 3 {
				i = k - 1 // the fifth one is the indirect block
			}
			if k == 4 {
				continue
			}
			b, grown, _, e := Grow(v, g, ino, d, i)
			if b != want || e != api.OK {
				t.Fatalf("inode %d, block %d: %d, %v; want %d", ino, i, b, e, want)
			}
			d = grown
		}
		if d.Single != group*8+7 {
			t.Fatal(d)
		}
	}
}

func TestP13_3Space(t *testing.T) {
	for _, w := range growths() {
		for left := range len(w.given) + 1 {
			image := grownImage()
			for group := range 2 {
				set(image[group*25+1], blocksAt, rowOf(25)...)
			}
			free := []int{46, 48, 49} // of group 1 alone
			for _, b := range free[:left] {
				image[26][blocksAt+(b-25)/8] &^= 1 << ((b - 25) % 8)
			}
			d, v := open(t, image, 8)
			if left < len(w.given) {
				stays(t, d, v, api.ErrSpace, askGrow(v, wide, 3, w.was, w.i))
				stays(t, d, v, api.ErrSpace, askGrow(v, wide, 3, w.was, w.i))
				continue
			}
			if b, _, _, e := Grow(v, wide, 3, w.was, w.i); b != free[left-1] || e != api.OK {
				t.Fatal(w, b, e)
			}
		}
	}
}

func rowOf(n int) []int {
	var l []int
	for i := range n {
		l = append(l, i)
	}
	return l
}

// TestP13_3TakenBack: behind some blocks that were given comes a header that
// can't be, or that can't be read.
func TestP13_3TakenBack(t *testing.T) {
	for _, w := range growths() {
		for left := range len(w.given) {
			for _, why := range []api.Errno{api.ErrMagic, api.ErrForm, api.ErrIO} {
				image := grownImage()
				set(image[1], blocksAt, rowOf(25)...)
				for _, b := range []int{10, 11, 12}[:left] {
					image[1][blocksAt+b/8] &^= 1 << (b % 8)
				}
				switch why {
				case api.ErrMagic:
					image[26][0]++
				case api.ErrForm:
					image[26][2] = 0 // the other group's number
				}
				d, v := open(t, image, 8)
				if why == api.ErrIO {
					answers(t, api.OK, d.Fail(26, 1))
				}
				_, e := v.Change(3, 0, []byte{5}, nil)
				answers(t, api.OK, e)
				stays(t, d, v, why, askGrow(v, wide, 3, w.was, w.i))
			}
		}
	}
}

// TestP13_3Frozen: a view that can't keep a new block's bytes, since they can't
// be read, is an error too; without a view these are not read at all.
func TestP13_3Frozen(t *testing.T) {
	for _, w := range growths() {
		for _, b := range w.given {
			d, v := open(t, grownImage(), 8)
			answers(t, api.OK, v.Freeze(100))
			answers(t, api.OK, d.Fail(b, 1))
			last := v.Last()
			if zero, e := askGrow(v, wide, 3, w.was, w.i)(); !zero || e != api.ErrIO || v.Last() != last || len(v.Dirty()) != 0 {
				t.Fatal(w, e, v.Last())
			}
			answers(t, api.OK, v.Thaw())
			for _, b := range w.given {
				answers(t, api.OK, d.Fail(b, 1000))
			}
			if got, _, _, e := Grow(v, wide, 3, w.was, w.i); got != w.given[len(w.given)-1] || e != api.OK {
				t.Fatal(w, got, e)
			}
		}
	}
}

func TestP13_3Errors(t *testing.T) {
	d, v := open(t, newImage(small), 8)
	for _, ino := range append(wild(), 12, 13) { // ahead of all others
		stays(t, d, v, api.ErrInode, askGrow(v, small, ino, api.Dinode{Single: -1}, -1))
		stays(t, d, v, api.ErrInode, askGrow(v, small, ino, api.Dinode{Single: -1}, 4))
		stays(t, d, v, api.ErrInode, askGrow(v, small, ino, api.Dinode{Direct: [4]int{5}}, 0))
	}
	for ino := range 12 {
		if _, _, _, e := Grow(v, small, ino, api.Dinode{}, 0); e != api.OK {
			t.Fatal(ino, e)
		}
	}
}

// sent writes a block, and has it done: which of some patches are done then.
func sent(t *testing.T, v *volume.Volume, block int, ids ...int) []int {
	t.Helper()
	answers(t, api.OK, v.Write(block))
	answers(t, api.OK, v.Complete(0, true))
	return slices.DeleteFunc(ids, func(id int) bool { return !v.IsDone(id) })
}

// isReady fails unless just these blocks may be written.
func isReady(t *testing.T, v *volume.Volume, blocks ...int) {
	t.Helper()
	if got := v.Ready(); !slices.Equal(got, blocks) {
		t.Fatalf("ready are %v, want %v", got, blocks)
	}
}

// TestP13_3Order: what of a Grow may reach the disk ahead of what. It makes the
// patches 1 (a bit), 2 (the noughts of Double, 4), 3 (a bit), 4 (the noughts of
// the one below, 5), 5 (that one's address), 6 (a bit), 7 (the noughts of the
// block, 6), 8 (its address).
func TestP13_3Order(t *testing.T) {
	g := api.Geom{Groups: 1, Blocks: 32, Inodes: 8}
	image := dirtied(g)
	d, v := open(t, image, 8)
	b, _, ahead, e := Grow(v, g, 3, api.Dinode{}, 68+64*3+7)
	if b != 6 || !slices.Equal(ahead, []int{1, 2, 5, 8}) || e != api.OK || v.Last() != 8 {
		t.Fatal(b, ahead, e)
	}
	pending := map[int][]int{1: {1, 3, 6}, 4: {2, 5}, 5: {4, 8}, 6: {7}}
	for block, want := range pending {
		if got := v.Pending(block); !slices.Equal(got, want) {
			t.Fatal(block, got)
		}
	}
	isReady(t, v, 1) // all blocks wait for their bits
	if done := sent(t, v, 1, 1, 3, 6); len(done) != 3 {
		t.Fatal(done)
	}
	isReady(t, v, 4, 5, 6)
	if done := sent(t, v, 4, 2, 5); !slices.Equal(done, []int{2}) { // without the address of what is not there
		t.Fatal(done)
	}
	if done := sent(t, v, 5, 4, 8); !slices.Equal(done, []int{4}) {
		t.Fatal(done)
	}
	for _, block := range []int{4, 5} {
		if !bytes.Equal(d.Image()[block], make([]byte, api.Size)) {
			t.Fatalf("%x", d.Image()[block])
		}
	}
	isReady(t, v, 4, 6)
	if done := sent(t, v, 6, 7); len(done) != 1 {
		t.Fatal(done)
	}
	isReady(t, v, 4, 5)
	if done := sent(t, v, 4, 5); len(done) != 1 || reader(d.Image()).at(4, 3) != 5 {
		t.Fatal(done)
	}
	if done := sent(t, v, 5, 8); len(done) != 1 || reader(d.Image()).at(5, 7) != 6 || len(v.Dirty()) != 0 {
		t.Fatal(done)
	}
}

// TestP13_3TwoBytes: an address is a patch of just its two bytes.
func TestP13_3TwoBytes(t *testing.T) {
	for _, i := range []int{4, 6, 35, 67} {
		for k := range api.Size {
			_, v := open(t, grownImage(), 8)
			other, e := v.Change(3, 0, []byte{1}, nil)
			answers(t, api.OK, e)
			_, e = v.Change(4, k, []byte{0}, []int{other})
			answers(t, api.OK, e)
			b, _, ahead, e := Grow(v, wide, 3, api.Dinode{Single: 4}, i)
			if b != 10 || len(ahead) != 1 || e != api.OK {
				t.Fatal(b, ahead, e)
			}
			sent(t, v, 1)
			sent(t, v, 10)
			at := 2 * (i - 4)
			if waits := !slices.Contains(v.Ready(), 4); waits != (k == at || k == at+1) {
				t.Fatalf("%d: it overlaps byte %d: %t", i, k, waits)
			}
		}
	}
}

// TestP13_3Without: what Grow allocates waits for nothing.
func TestP13_3Without(t *testing.T) {
	_, v := open(t, newImage(small), 8)
	_, e := v.Change(3, 0, []byte{1}, nil)
	answers(t, api.OK, e)
	_, _, _, e = Grow(v, small, 3, api.Dinode{}, 1)
	answers(t, api.OK, e)
	if !slices.Contains(v.Ready(), 1) {
		t.Fatal(v.Ready())
	}
	if done := sent(t, v, 1, 2); len(done) != 1 {
		t.Fatal(done)
	}
}

// TestP13_3OwnMemory: what is told is shared with nothing.
func TestP13_3OwnMemory(t *testing.T) {
	d, v := open(t, newImage(small), 8)
	_, _, one, e := Grow(v, small, 3, api.Dinode{}, 68)
	answers(t, api.OK, e)
	was := tell(d, v)
	one = one[:cap(one)]
	for k := range one {
		one[k] = 1 << 40
	}
	if is := tell(d, v); !reflect.DeepEqual(is, was) {
		t.Fatal(is, was)
	}
}
