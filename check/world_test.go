package check

import (
	"slices"
	"testing"

	"bollard/api"
	"bollard/dirs"
	"bollard/disk"
	"bollard/layout"
	"bollard/mkfs"
	"bollard/scan"
	"bollard/snap"
	"bollard/volume"
)

// world is an image that is built, and then hurt, piece by piece.
type world struct {
	g     api.Geom
	image [][]byte
}

func newWorld(g api.Geom) *world {
	image, e := mkfs.Make(g)
	if e != api.OK {
		panic(e)
	}
	return &world{g: g, image: image}
}

func (w *world) data() int {
	return 2 + w.g.Inodes/4
}

func (w *world) inodes() int {
	return w.g.Groups * w.g.Inodes
}

func turn(header []byte, at, bit int, on bool) {
	header[at+bit/8] &^= 1 << (bit % 8)
	if on {
		header[at+bit/8] |= 1 << (bit % 8)
	}
}

func isSet(header []byte, at, bit int) bool {
	return header[at+bit/8]>>(bit%8)&1 == 1
}

// block allocates a block, or frees it.
func (w *world) block(b int, on bool) {
	turn(w.image[b/w.g.Blocks*w.g.Blocks+1], 12, b%w.g.Blocks, on)
}

// inode allocates an inode, or frees it.
func (w *world) inode(ino int, on bool) {
	turn(w.image[ino/w.g.Inodes*w.g.Blocks+1], 4, ino%w.g.Inodes, on)
}

// free is the blocks of data that are free, rising.
func (w *world) free() []int {
	var out []int
	for b := range w.image {
		bit := b % w.g.Blocks
		if bit >= w.data() && !isSet(w.image[b-bit+1], 12, bit) {
			out = append(out, b)
		}
	}
	return out
}

// take allocates the first block of data that is free.
func (w *world) take() int {
	b := w.free()[0]
	w.block(b, true)
	return b
}

// home is the block in which an inode stands.
func (w *world) home(ino int) int {
	return ino/w.g.Inodes*w.g.Blocks + 2 + ino%w.g.Inodes/4
}

// raw is where an inode's bytes stand.
func (w *world) raw(ino int) []byte {
	return w.image[w.home(ino)][ino%4*32:][:32]
}

func (w *world) get(ino int) api.Dinode {
	d, e := layout.DecodeDinode(w.raw(ino))
	if e != api.OK {
		panic(e)
	}
	return d
}

func (w *world) put(ino int, d api.Dinode) {
	bytes, e := layout.EncodeDinode(d)
	if e != api.OK {
		panic(e)
	}
	copy(w.raw(ino), bytes)
}

func (w *world) edit(ino int, change func(*api.Dinode)) {
	d := w.get(ino)
	change(&d)
	w.put(ino, d)
}

// add has an inode that is allocated, of one link.
func (w *world) add(ino, mode int) {
	w.inode(ino, true)
	w.put(ino, api.Dinode{Mode: mode, Links: 1})
}

// fan puts an address into a place of an indirect block.
func (w *world) fan(b, place, address int) {
	w.image[b][2*place], w.image[b][2*place+1] = byte(address), byte(address>>8)
}

func (w *world) fanAt(b, place int) int {
	return int(w.image[b][2*place]) | int(w.image[b][2*place+1])<<8
}

// grow gives an inode its block i, and what is missing on the way to it: the
// block's address. It has room enough.
func (w *world) grow(ino, i int) int {
	d := w.get(ino)
	fresh := func(at *int) int {
		if *at == 0 {
			*at = w.take()
			clear(w.image[*at])
		}
		return *at
	}
	below := func(b, place int) int {
		address := w.fanAt(b, place)
		fresh(&address)
		w.fan(b, place, address)
		return address
	}
	var b int
	switch {
	case i < 4:
		b = fresh(&d.Direct[i])
	case i < 4+64:
		b = below(fresh(&d.Single), i-4)
	default:
		b = below(below(fresh(&d.Double), (i-68)/64), (i-68)%64)
	}
	w.put(ino, d)
	return b
}

// addr is an inode's block i; 0: there is none.
func (w *world) addr(ino, i int) int {
	d := w.get(ino)
	at := func(b, place int) int {
		if b == 0 {
			return 0
		}
		return w.fanAt(b, place)
	}
	switch {
	case i < 4:
		return d.Direct[i]
	case i < 4+64:
		return at(d.Single, i-4)
	}
	return at(at(d.Double, (i-68)/64), (i-68)%64)
}

func entry(ino int, name string) api.Entry {
	return api.Entry{Ino: ino, Name: name}
}

// page sets all entries of a directory's block i, which grows.
func (w *world) page(dir, i int, l ...api.Entry) {
	b := w.grow(dir, i)
	bytes, e := dirs.Encode(l)
	if e != api.OK {
		panic(e)
	}
	copy(w.image[b], bytes)
	w.edit(dir, func(d *api.Dinode) { d.Size = max(d.Size, (i+1)*128) })
}

// links has an inode say so many links.
func (w *world) links(ino, n int) {
	w.edit(ino, func(d *api.Dinode) { d.Links = n })
}

// The hamlet: a small volume that is accepted, in which all kinds of things
// leak. Its blocks of data begin at 4 and at 36.
//
//	/           2, two blocks; it says a link too many
//	/a, /h      3, a file of two blocks with a hole between them; a link too many
//	/d          4; two links too many
//	/d/s        5, a directory that is empty
//	/e          9, a directory of six blocks, the last two by Single
//	/e/n        10, a file, which only the last of them names
//	/f          6, a file with blocks by Single and Double
//	            7, a file of two blocks that no name leads to
//	            11, a directory that no name leads to, with a name of 12
//	            12, a file that only this one names
//	            13, allocated, but free
//	            14, a file with a block that is not allocated, and no name leads to it
var village = api.Geom{Groups: 2, Blocks: 32, Inodes: 8}

func hamlet() *world {
	w := newWorld(village)
	w.page(2, 0, entry(2, "."), entry(2, ".."), entry(3, "a"), api.Entry{}, entry(4, "d"), entry(3, "h"))
	w.page(2, 1, api.Entry{}, entry(9, "e"), entry(6, "f"))
	w.links(2, 5)
	for _, ino := range []int{3, 6, 7, 10, 12, 14} {
		w.add(ino, api.ModeFile)
	}
	w.links(3, 3)
	w.grow(3, 0)
	w.grow(3, 2)
	for _, ino := range []int{4, 5, 9, 11} {
		w.add(ino, api.ModeDir)
	}
	w.page(4, 0, entry(5, "s"), entry(4, "."), entry(2, ".."))
	w.links(4, 5)
	w.page(5, 0, entry(5, "."), entry(4, ".."))
	w.links(5, 2)
	w.page(9, 0, entry(9, "."), entry(2, ".."))
	for i := 1; i < 5; i++ {
		w.page(9, i)
	}
	w.page(9, 5, api.Entry{}, entry(10, "n"))
	w.links(9, 2)
	for _, i := range []int{1, 4, 67, 68, 4163} {
		w.grow(6, i)
	}
	w.grow(7, 0)
	w.grow(7, 3)
	w.page(11, 0, entry(11, "."), entry(2, ".."), entry(12, "x"))
	w.inode(13, true)
	w.grow(14, 2)
	w.inode(14, false)
	return w
}

// lost allocates three blocks that nobody has: of the hamlet 31, 61 and 63.
func lost() *world {
	w := hamlet()
	for _, b := range []int{31, 61, 63} {
		w.block(b, true)
	}
	return w
}

// village's requests, of a snapshot with a number.
func wanted(gen int) []api.Request {
	return []api.Request{
		{Kind: api.LowerLinks, N: 2, To: 4, Gen: gen}, {Kind: api.LowerLinks, N: 3, To: 2, Gen: gen}, {Kind: api.LowerLinks, N: 4, To: 3, Gen: gen},
		{Kind: api.FreeInode, N: 7, Gen: gen}, {Kind: api.FreeInode, N: 11, Gen: gen}, {Kind: api.FreeInode, N: 12, Gen: gen}, {Kind: api.FreeInode, N: 13, Gen: gen}, {Kind: api.FreeInode, N: 14, Gen: gen},
		{Kind: api.FreeBlock, N: 31, Gen: gen}, {Kind: api.FreeBlock, N: 61, Gen: gen}, {Kind: api.FreeBlock, N: 63, Gen: gen},
	}
}

// TestHamlet: what the other tests lean on.
func TestHamlet(t *testing.T) {
	w := hamlet()
	if e := scan.Accept(w.image); e != api.OK || !slices.Contains(w.free(), 31) || !slices.Contains(w.free(), 61) || !slices.Contains(w.free(), 63) {
		t.Fatal(e, w.free())
	}
}

func answers(t *testing.T, want, got api.Errno) {
	t.Helper()
	if got != want {
		t.Fatalf("%v, want %v", got, want)
	}
}

// taken is a snapshot of an image with a number, room, and buffers, and what it
// was taken of.
func taken(t *testing.T, w *world, gen, room, buffers int) (*disk.Disk, *volume.Volume, *snap.Snap) {
	t.Helper()
	d, e := disk.Of(w.image)
	answers(t, api.OK, e)
	v, e := volume.Open(d, buffers)
	answers(t, api.OK, e)
	s, e := snap.Take(v, w.g, gen, room)
	answers(t, api.OK, e)
	return d, v, s
}

// begun is a checker of a snapshot.
func begun(t *testing.T, s *snap.Snap) *Checker {
	t.Helper()
	c, e := New(s)
	if c == nil || e != api.OK {
		t.Fatal(c, e)
	}
	return c
}

// ofWorld is a checker of an image's snapshot.
func ofWorld(t *testing.T, w *world) *Checker {
	t.Helper()
	_, _, s := taken(t, w, 1, 0, api.MaxCache)
	return begun(t, s)
}

// done is a step that was done: the pass that it was of, and what it asked.
type done struct {
	pass  int
	asked []api.Request
}

// stepped does a step that has no error.
func stepped(t *testing.T, c *Checker) done {
	t.Helper()
	pass := c.Pass()
	if pass < 1 || pass > 4 || c.Done() {
		t.Fatal("no step is left:", pass, c.Done())
	}
	asked, e := c.Step()
	answers(t, api.OK, e)
	return done{pass: pass, asked: slices.Clone(asked)}
}

// run does all steps that are left.
func run(t *testing.T, c *Checker) []done {
	t.Helper()
	var out []done
	for most := c.Steps(); !c.Done(); {
		if len(out) == most {
			t.Fatal("more steps than there are at most")
		}
		out = append(out, stepped(t, c))
	}
	if c.Pass() != 0 {
		t.Fatal(c.Pass())
	}
	return out
}

// asked is all that some steps ask, in order.
func asked(l []done) []api.Request {
	var out []api.Request
	for _, one := range l {
		out = append(out, one.asked...)
	}
	return out
}

// passes is how many steps each pass had, and fails unless they come in order.
func passes(t *testing.T, l []done) [5]int {
	t.Helper()
	var out [5]int
	last := 0
	for _, one := range l {
		if one.pass < last {
			t.Fatal("pass", one.pass, "comes behind", last)
		}
		last = one.pass
		out[last]++
	}
	return out
}

func sameSteps(a, b []done) bool {
	return slices.EqualFunc(a, b, func(a, b done) bool {
		return a.pass == b.pass && slices.Equal(a.asked, b.asked)
	})
}

// refuses fails unless a step has an error, and leaves all as it was.
func refuses(t *testing.T, c *Checker, want api.Errno) {
	t.Helper()
	pass, is, most := c.Pass(), c.Done(), c.Steps()
	asked, e := c.Step()
	if len(asked) != 0 || e != want || c.Pass() != pass || c.Done() != is || c.Steps() != most {
		t.Fatalf("%v, %v, pass %d, %t, %d; want %v, pass %d, %t, %d", asked, e, c.Pass(), c.Done(), c.Steps(), want, pass, is, most)
	}
}
