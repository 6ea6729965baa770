package scan

import (
	"slices"
	"strconv"
	"testing"

	"bollard/api"
	"bollard/dirs"
	"bollard/layout"
	"bollard/mkfs"
)

// world is an image that is built, and then hurt, piece by piece.
type world struct {
	g     api.Geom
	image [][]byte
}

func newWorld(g api.Geom) *world {
	image, e := mkfs.Make(g)
	if e != api.OK {
		panic(e)
	}
	return &world{g: g, image: image}
}

func (w *world) data() int {
	return 2 + w.g.Inodes/4
}

func turn(header []byte, at, bit int, on bool) {
	header[at+bit/8] &^= 1 << (bit % 8)
	if on {
		header[at+bit/8] |= 1 << (bit % 8)
	}
}

func isSet(header []byte, at, bit int) bool {
	return header[at+bit/8]>>(bit%8)&1 == 1
}

// block allocates a block, or frees it.
func (w *world) block(b int, on bool) {
	turn(w.image[b/w.g.Blocks*w.g.Blocks+1], 12, b%w.g.Blocks, on)
}

// inode allocates an inode, or frees it.
func (w *world) inode(ino int, on bool) {
	turn(w.image[ino/w.g.Inodes*w.g.Blocks+1], 4, ino%w.g.Inodes, on)
}

// take allocates the first block of data that is free; 0, if none is.
func (w *world) take() int {
	for b := range w.image {
		bit := b % w.g.Blocks
		if bit >= w.data() && !isSet(w.image[b-bit+1], 12, bit) {
			w.block(b, true)
			return b
		}
	}
	return 0
}

// raw is where an inode's bytes stand.
func (w *world) raw(ino int) []byte {
	return w.image[ino/w.g.Inodes*w.g.Blocks+2+ino%w.g.Inodes/4][ino%4*32:][:32]
}

func (w *world) get(ino int) api.Dinode {
	d, e := layout.DecodeDinode(w.raw(ino))
	if e != api.OK {
		panic(e)
	}
	return d
}

func (w *world) put(ino int, d api.Dinode) {
	bytes, e := layout.EncodeDinode(d)
	if e != api.OK {
		panic(e)
	}
	copy(w.raw(ino), bytes)
}

func (w *world) edit(ino int, change func(*api.Dinode)) {
	d := w.get(ino)
	change(&d)
	w.put(ino, d)
}

// add has an inode that is allocated, of one link.
func (w *world) add(ino, mode int) {
	w.inode(ino, true)
	w.put(ino, api.Dinode{Mode: mode, Links: 1})
}

// fan puts an address into a place of an indirect block.
func (w *world) fan(b, place, address int) {
	w.image[b][2*place], w.image[b][2*place+1] = byte(address), byte(address>>8)
}

func (w *world) fanAt(b, place int) int {
	return int(w.image[b][2*place]) | int(w.image[b][2*place+1])<<8
}

// grow gives an inode its block i, and what is missing on the way to it: the
// block's address. It has room enough.
func (w *world) grow(ino, i int) int {
	d := w.get(ino)
	fresh := func(at *int) int {
		if *at == 0 {
			*at = w.take()
			clear(w.image[*at])
		}
		return *at
	}
	below := func(b, place int) int {
		address := w.fanAt(b, place)
		fresh(&address)
		w.fan(b, place, address)
		return address
	}
	var b int
	switch {
	case i < 4:
		b = fresh(&d.Direct[i])
	case i < 4+64:
		b = below(fresh(&d.Single), i-4)
	default:
		b = below(below(fresh(&d.Double), (i-68)/64), (i-68)%64)
	}
	w.put(ino, d)
	return b
}

// addr is an inode's block i; 0: there is none.
func (w *world) addr(ino, i int) int {
	d := w.get(ino)
	at := func(b, place int) int {
		if b == 0 {
			return 0
		}
		return w.fanAt(b, place)
	}
	switch {
	case i < 4:
		return d.Direct[i]
	case i < 4+64:
		return at(d.Single, i-4)
	}
	return at(at(d.Double, (i-68)/64), (i-68)%64)
}

func entry(ino int, name string) api.Entry {
	return api.Entry{Ino: ino, Name: name}
}

// page sets all entries of a directory's block i, which grows.
func (w *world) page(dir, i int, l ...api.Entry) {
	b := w.grow(dir, i)
	bytes, e := dirs.Encode(l)
	if e != api.OK {
		panic(e)
	}
	copy(w.image[b], bytes)
	w.edit(dir, func(d *api.Dinode) { d.Size = max(d.Size, (i+1)*128) })
}

// slot sets one entry of a directory's block i, whatever stands beside it.
func (w *world) slot(dir, i, place int, e api.Entry) {
	bytes, why := layout.EncodeEntry(e)
	if why != api.OK {
		panic(why)
	}
	copy(w.image[w.addr(dir, i)][16*place:], bytes)
}

// links has an inode say so many links.
func (w *world) links(ino, n int) {
	w.edit(ino, func(d *api.Dinode) { d.Links = n })
}

// copyOf is another one, with the same bytes.
func (w *world) copyOf() *world {
	out := &world{g: w.g}
	for _, b := range w.image {
		out.image = append(out.image, slices.Clone(b))
	}
	return out
}

// The town: a volume with all that there can be.
//
//	/           2, two blocks (the second is number 1)
//	/a, /h      3, a file of two blocks with a hole between them
//	/d          4
//	/d/sub      7, a directory that is empty
//	/d/z        20, a file without blocks, in the second group
//	/e          5, a directory of six blocks, two by Single
//	/e/n0 ..    21 to 24, files
//	/f          6, a file with blocks by Single and Double
//	            8 to 15, files of two blocks each that no name leads to
//	            16, a directory that no name leads to, full of bytes that may not be
//	            17, allocated, but free
//	            18, a file that is not allocated, and no name leads to it
func town() *world {
	w := newWorld(api.Geom{Groups: 2, Blocks: 128, Inodes: 16})
	w.page(2, 0, entry(2, "."), entry(2, ".."), entry(3, "a"), api.Entry{}, entry(4, "d"), entry(3, "h"), entry(5, "e"))
	w.page(2, 1, api.Entry{}, entry(6, "f"))
	w.links(2, 4)
	townFiles(w)
	townDirs(w)
	townLeaks(w)
	return w
}

func townFiles(w *world) {
	for _, ino := range []int{3, 6, 20, 21, 22, 23, 24} {
		w.add(ino, api.ModeFile)
	}
	w.links(3, 2)
	w.grow(3, 0)
	w.grow(3, 2)
	for _, i := range []int{1, 4, 5, 67, 68, 70, 131, 132, 200, 4163} {
		w.grow(6, i)
	}
	w.edit(6, func(d *api.Dinode) { d.Size = api.MaxFile })
}

func townDirs(w *world) {
	for _, ino := range []int{4, 5, 7} {
		w.add(ino, api.ModeDir)
	}
	w.page(4, 0, entry(7, "sub"), entry(4, "."), entry(20, "z"), entry(2, ".."))
	w.links(4, 3)
	w.page(7, 0, entry(7, "."), entry(4, ".."))
	w.links(7, 2)
	w.page(5, 0, entry(5, "."))
	for i := 1; i < 5; i++ {
		w.page(5, i, api.Entry{}, entry(20+i, "n"+strconv.Itoa(i)))
	}
	w.page(5, 5, api.Entry{}, api.Entry{}, entry(2, ".."))
	w.links(5, 2)
}

func townLeaks(w *world) {
	for ino := 8; ino < 16; ino++ {
		w.add(ino, api.ModeFile)
		w.grow(ino, 0)
		w.grow(ino, 3)
	}
	w.add(16, api.ModeDir)
	bytes := w.image[w.grow(16, 0)]
	for i := range bytes {
		bytes[i] = 0xff
	}
	w.edit(16, func(d *api.Dinode) { d.Size = 128 })
	w.inode(17, true)
	w.add(18, api.ModeFile)
	w.inode(18, false)
}

func answers(t *testing.T, want, got api.Errno) {
	t.Helper()
	if got != want {
		t.Fatalf("%v, want %v", got, want)
	}
}

// refused fails unless all calls answer the error, and nothing beside it.
// (Geom answers it only where it has it, too.)
func refused(t *testing.T, want api.Errno, image [][]byte) {
	t.Helper()
	answers(t, want, Accept(image))
	claims, e1 := Claims(image)
	reach, e2 := Reach(image)
	links, e3 := Links(image)
	found, e4 := Leaks(image)
	for _, e := range []api.Errno{e1, e2, e3, e4} {
		answers(t, want, e)
	}
	if len(claims)+len(reach)+len(links)+len(found.Blocks)+len(found.Inodes)+len(found.Links) != 0 {
		t.Fatal("something is told beside an error:", claims, reach, links, found)
	}
}
