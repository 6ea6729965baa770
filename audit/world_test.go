package audit

import (
	"bytes"
	"slices"
	"strconv"
	"testing"

	"bollard/api"
	"bollard/dirs"
	"bollard/layout"
	"bollard/mkfs"
)

var (
	small = api.Geom{Groups: 1, Blocks: 32, Inodes: 8}
	large = api.Geom{Groups: 1, Blocks: 256, Inodes: 64}
)

// world is an image that is built, and then hurt, piece by piece.
type world struct {
	g     api.Geom
	image [][]byte
}

func newWorld(g api.Geom) *world {
	image, e := mkfs.Make(g)
	if e != api.OK {
		panic(e)
	}
	return &world{g: g, image: image}
}

func (w *world) copyOf() *world {
	out := &world{g: w.g}
	for _, b := range w.image {
		out.image = append(out.image, slices.Clone(b))
	}
	return out
}

func turn(header []byte, at, bit int, on bool) {
	header[at+bit/8] &^= 1 << (bit % 8)
	if on {
		header[at+bit/8] |= 1 << (bit % 8)
	}
}

func isSet(header []byte, at, bit int) bool {
	return header[at+bit/8]>>(bit%8)&1 == 1
}

// block allocates a block, or frees it.
func (w *world) block(b int, on bool) {
	turn(w.image[b/w.g.Blocks*w.g.Blocks+1], 12, b%w.g.Blocks, on)
}

func (w *world) hasBlock(b int) bool {
	return isSet(w.image[b/w.g.Blocks*w.g.Blocks+1], 12, b%w.g.Blocks)
}

// inode allocates an inode, or frees it.
func (w *world) inode(ino int, on bool) {
	turn(w.image[ino/w.g.Inodes*w.g.Blocks+1], 4, ino%w.g.Inodes, on)
}

func (w *world) hasInode(ino int) bool {
	return isSet(w.image[ino/w.g.Inodes*w.g.Blocks+1], 4, ino%w.g.Inodes)
}

func (w *world) isData(b int) bool {
	return b%w.g.Blocks >= 2+w.g.Inodes/4
}

// free is the blocks of data that are not allocated.
func (w *world) free() []int {
	var out []int
	for b := range w.image {
		if w.isData(b) && !w.hasBlock(b) {
			out = append(out, b)
		}
	}
	return out
}

// take allocates the first block of data that is free.
func (w *world) take() int {
	b := w.free()[0]
	w.block(b, true)
	return b
}

// raw is where an inode's bytes stand.
func (w *world) raw(ino int) []byte {
	return w.image[ino/w.g.Inodes*w.g.Blocks+2+ino%w.g.Inodes/4][ino%4*32:][:32]
}

func (w *world) get(ino int) api.Dinode {
	d, e := layout.DecodeDinode(w.raw(ino))
	if e != api.OK {
		panic(e)
	}
	return d
}

func (w *world) put(ino int, d api.Dinode) {
	raw, e := layout.EncodeDinode(d)
	if e != api.OK {
		panic(e)
	}
	copy(w.raw(ino), raw)
}

func (w *world) edit(ino int, change func(*api.Dinode)) {
	d := w.get(ino)
	change(&d)
	w.put(ino, d)
}

// add has an inode that is allocated, of one link.
func (w *world) add(ino, mode int) {
	w.inode(ino, true)
	w.put(ino, api.Dinode{Mode: mode, Links: 1})
}

func (w *world) links(ino, n int) {
	w.edit(ino, func(d *api.Dinode) { d.Links = n })
}

func (w *world) size(ino, n int) {
	w.edit(ino, func(d *api.Dinode) { d.Size = n })
}

func (w *world) fan(b, place, address int) {
	w.image[b][2*place], w.image[b][2*place+1] = byte(address), byte(address>>8)
}

// fanAt is an address in an indirect block; 0, if there is no such block.
func (w *world) fanAt(b, place int) int {
	if b == 0 {
		return 0
	}
	return int(w.image[b][2*place]) | int(w.image[b][2*place+1])<<8
}

// addr is an inode's block i; 0: there is none.
func (w *world) addr(ino, i int) int {
	return w.addrIn(w.get(ino), i)
}

func (w *world) addrIn(d api.Dinode, i int) int {
	switch {
	case i < 4:
		return d.Direct[i]
	case i < 4+64:
		return w.fanAt(d.Single, i-4)
	}
	return w.fanAt(w.fanAt(d.Double, (i-68)/64), (i-68)%64)
}

// grow gives an inode its block i, and what is missing on the way to it: the
// block's address. There must be room.
func (w *world) grow(ino, i int) int {
	d := w.get(ino)
	fresh := func(at *int) int {
		if *at == 0 {
			*at = w.take()
			clear(w.image[*at])
		}
		return *at
	}
	below := func(b, place int) int {
		address := w.fanAt(b, place)
		fresh(&address)
		w.fan(b, place, address)
		return address
	}
	var b int
	switch {
	case i < 4:
		b = fresh(&d.Direct[i])
	case i < 4+64:
		b = below(fresh(&d.Single), i-4)
	default:
		b = below(below(fresh(&d.Double), (i-68)/64), (i-68)%64)
	}
	w.put(ino, d)
	return b
}

// letters fills an inode's block i, which grows.
func (w *world) letters(ino, i int, x byte) {
	copy(w.image[w.grow(ino, i)], bytes.Repeat([]byte{x}, 128))
}

func entry(ino int, name string) api.Entry {
	return api.Entry{Ino: ino, Name: name}
}

// page sets all entries of a directory's block i, which grows.
func (w *world) page(dir, i int, l ...api.Entry) {
	b := w.grow(dir, i)
	page, e := dirs.Encode(l)
	if e != api.OK {
		panic(e)
	}
	copy(w.image[b], page)
	w.edit(dir, func(d *api.Dinode) { d.Size = max(d.Size, (i+1)*128) })
}

// slot sets one entry of a directory's block i.
func (w *world) slot(dir, i, place int, e api.Entry) {
	raw, why := layout.EncodeEntry(e)
	if why != api.OK {
		panic(why)
	}
	copy(w.image[w.addr(dir, i)][16*place:], raw)
}

// name puts a name into a directory at its first empty entry, behind which it
// grows.
func (w *world) name(dir, ino int, name string) {
	for i := 0; ; i++ {
		if i == w.get(dir).Size/128 {
			w.page(dir, i)
		}
		page, _, e := dirs.With(w.image[w.addr(dir, i)], entry(ino, name))
		if e == api.OK {
			copy(w.image[w.addr(dir, i)], page)
			return
		}
	}
}

// dir is a new directory with a name, and all links right.
func (w *world) dir(up, ino int, name string) {
	w.add(ino, api.ModeDir)
	w.page(ino, 0, entry(ino, "."), entry(up, ".."))
	w.links(ino, 2)
	w.name(up, ino, name)
	w.links(up, w.get(up).Links+1)
}

// file is a new file with a name.
func (w *world) file(up, ino int, name string) {
	w.add(ino, api.ModeFile)
	w.name(up, ino, name)
}

// again is one name more of an inode, which says so.
func (w *world) again(up, ino int, name string) {
	w.name(up, ino, name)
	w.links(ino, w.get(ino).Links+1)
}

// The town: a volume with all that there can be.
//
//	/           2, two blocks (the second is number 1)
//	/a, /h      3, a file of two blocks with a hole between them
//	/d          4
//	/d/again    3, once more
//	/d/sub      7, a directory that is empty
//	/d/z        20, a file without blocks, in the second group
//	/e          5, a directory of six blocks, two by Single
//	/e/n1 ..    21 to 24, files
//	/f          6, a file with blocks by Single and Double
//	            8 to 15, files of two blocks each that no name leads to
//	            16, a directory that no name leads to, full of bytes that may not be
//	            17, allocated, but free
//	            18, a file that is not allocated, and no name leads to it
func town() *world {
	w := newWorld(api.Geom{Groups: 2, Blocks: 128, Inodes: 16})
	w.page(2, 0, entry(2, "."), entry(2, ".."), entry(3, "a"), api.Entry{}, entry(4, "d"), entry(3, "h"), entry(5, "e"))
	w.page(2, 1, api.Entry{}, entry(6, "f"))
	w.links(2, 4)
	townFiles(w)
	townDirs(w)
	townLeaks(w)
	return w
}

func townFiles(w *world) {
	for _, ino := range []int{3, 6, 20, 21, 22, 23, 24} {
		w.add(ino, api.ModeFile)
	}
	w.links(3, 3)
	w.letters(3, 0, 'a')
	w.letters(3, 2, 'c')
	w.size(3, 300)
	for i, at := range []int{1, 4, 5, 67, 68, 70, 131, 132, 200, 4163} {
		w.letters(6, at, byte('A'+i))
	}
	w.size(6, api.MaxFile)
}

func townDirs(w *world) {
	for _, ino := range []int{4, 5, 7} {
		w.add(ino, api.ModeDir)
	}
	w.page(4, 0, entry(7, "sub"), entry(4, "."), entry(20, "z"), entry(2, ".."), entry(3, "again"))
	w.links(4, 3)
	w.page(7, 0, entry(7, "."), entry(4, ".."))
	w.links(7, 2)
	w.page(5, 0, entry(5, "."))
	for i := 1; i < 5; i++ {
		w.page(5, i, api.Entry{}, entry(20+i, "n"+strconv.Itoa(i)))
	}
	w.page(5, 5, api.Entry{}, api.Entry{}, entry(2, ".."))
	w.links(5, 2)
}

func townLeaks(w *world) {
	for ino := 8; ino < 16; ino++ {
		w.add(ino, api.ModeFile)
		w.grow(ino, 0)
		w.grow(ino, 3)
	}
	w.add(16, api.ModeDir)
	w.letters(16, 0, 0xff)
	w.size(16, 128)
	w.inode(17, true)
	w.add(18, api.ModeFile)
	w.inode(18, false)
}

func answers(t *testing.T, want, got api.Errno) {
	t.Helper()
	if got != want {
		t.Fatalf("%v, want %v", got, want)
	}
}
