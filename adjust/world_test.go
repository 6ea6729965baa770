package adjust

import (
	"math/rand"
	"strconv"

	"bollard/api"
	"bollard/dirs"
	"bollard/layout"
	"bollard/mkfs"
)

// world is an image that is built, and then hurt, piece by piece.
type world struct {
	g     api.Geom
	image [][]byte
}

func newWorld(g api.Geom) *world {
	image, e := mkfs.Make(g)
	if e != api.OK {
		panic(e)
	}
	return &world{g: g, image: image}
}

func (w *world) data() int {
	return 2 + w.g.Inodes/4
}

func (w *world) inodes() int {
	return w.g.Groups * w.g.Inodes
}

func turn(header []byte, at, bit int, on bool) {
	header[at+bit/8] &^= 1 << (bit % 8)
	if on {
		header[at+bit/8] |= 1 << (bit % 8)
	}
}

func isSet(header []byte, at, bit int) bool {
	return header[at+bit/8]>>(bit%8)&1 == 1
}

// block allocates a block, or frees it.
func (w *world) block(b int, on bool) {
	turn(w.image[b/w.g.Blocks*w.g.Blocks+1], 12, b%w.g.Blocks, on)
}

// inode allocates an inode, or frees it.
func (w *world) inode(ino int, on bool) {
	turn(w.image[ino/w.g.Inodes*w.g.Blocks+1], 4, ino%w.g.Inodes, on)
}

// free is the blocks of data that are free, rising.
func (w *world) free() []int {
	var out []int
	for b := range w.image {
		bit := b % w.g.Blocks
		if bit >= w.data() && !isSet(w.image[b-bit+1], 12, bit) {
			out = append(out, b)
		}
	}
	return out
}

// take allocates the first block of data that is free.
func (w *world) take() int {
	b := w.free()[0]
	w.block(b, true)
	return b
}

// home is the block in which an inode stands.
func (w *world) home(ino int) int {
	return ino/w.g.Inodes*w.g.Blocks + 2 + ino%w.g.Inodes/4
}

// raw is where an inode's bytes stand.
func (w *world) raw(ino int) []byte {
	return w.image[w.home(ino)][ino%4*32:][:32]
}

func (w *world) get(ino int) api.Dinode {
	d, e := layout.DecodeDinode(w.raw(ino))
	if e != api.OK {
		panic(e)
	}
	return d
}

func (w *world) put(ino int, d api.Dinode) {
	bytes, e := layout.EncodeDinode(d)
	if e != api.OK {
		panic(e)
	}
	copy(w.raw(ino), bytes)
}

func (w *world) edit(ino int, change func(*api.Dinode)) {
	d := w.get(ino)
	change(&d)
	w.put(ino, d)
}

// add has an inode that is allocated, of one link.
func (w *world) add(ino, mode int) {
	w.inode(ino, true)
	w.put(ino, api.Dinode{Mode: mode, Links: 1})
}

// fan puts an address into a place of an indirect block.
func (w *world) fan(b, place, address int) {
	w.image[b][2*place], w.image[b][2*place+1] = byte(address), byte(address>>8)
}

func (w *world) fanAt(b, place int) int {
	return int(w.image[b][2*place]) | int(w.image[b][2*place+1])<<8
}

// grow gives an inode its block i, and what is missing on the way to it: the
// block's address. It has room enough.
func (w *world) grow(ino, i int) int {
	d := w.get(ino)
	fresh := func(at *int) int {
		if *at == 0 {
			*at = w.take()
			clear(w.image[*at])
		}
		return *at
	}
	below := func(b, place int) int {
		address := w.fanAt(b, place)
		fresh(&address)
		w.fan(b, place, address)
		return address
	}
	var b int
	switch {
	case i < 4:
		b = fresh(&d.Direct[i])
	case i < 4+64:
		b = below(fresh(&d.Single), i-4)
	default:
		b = below(below(fresh(&d.Double), (i-68)/64), (i-68)%64)
	}
	w.put(ino, d)
	return b
}

// addr is an inode's block i; 0: there is none.
func (w *world) addr(ino, i int) int {
	d := w.get(ino)
	at := func(b, place int) int {
		if b == 0 {
			return 0
		}
		return w.fanAt(b, place)
	}
	switch {
	case i < 4:
		return d.Direct[i]
	case i < 4+64:
		return at(d.Single, i-4)
	}
	return at(at(d.Double, (i-68)/64), (i-68)%64)
}

// named is the bytes of an entry.
func named(ino int, name string) ([]byte, api.Errno) {
	return layout.EncodeEntry(entry(ino, name))
}

func entry(ino int, name string) api.Entry {
	return api.Entry{Ino: ino, Name: name}
}

// page sets all entries of a directory's block i, which grows.
func (w *world) page(dir, i int, l ...api.Entry) {
	b := w.grow(dir, i)
	bytes, e := dirs.Encode(l)
	if e != api.OK {
		panic(e)
	}
	copy(w.image[b], bytes)
	w.edit(dir, func(d *api.Dinode) { d.Size = max(d.Size, (i+1)*128) })
}

// links has an inode say so many links.
func (w *world) links(ino, n int) {
	w.edit(ino, func(d *api.Dinode) { d.Links = n })
}

// builder builds a volume that is accepted, in which things leak.
type builder struct {
	*world
	source *rand.Rand
	dirs   []int // that are reached
	truth  map[int]int
}

func anyWorld(source *rand.Rand) *world {
	inodes := 4 * (1 + source.Intn(4))
	g := api.Geom{Groups: 1 + source.Intn(3), Inodes: inodes, Blocks: max(8, 3+inodes/4) + source.Intn(40)}
	b := &builder{world: newWorld(g), source: source, dirs: []int{2}, truth: map[int]int{2: 2}}
	for ino := 3; ino < b.inodes(); ino++ {
		b.anyInode(ino)
	}
	for ino := range b.inodes() {
		if n := b.truth[ino]; n > 0 {
			if source.Intn(4) == 0 {
				n += source.Intn(3)
			}
			b.links(ino, n)
		}
	}
	for range source.Intn(4) {
		if l := b.free(); len(l) > 0 {
			b.block(l[source.Intn(len(l))], true)
		}
	}
	return b.world
}

func (b *builder) anyInode(ino int) {
	kind := b.source.Intn(10)
	up := b.dirs[b.source.Intn(len(b.dirs))]
	switch {
	case kind == 0: // free
	case kind == 1:
		b.inode(ino, true)
	case kind == 2:
		b.add(ino, 1+b.source.Intn(2))
		b.inode(ino, b.source.Intn(2) == 0)
		b.anyBlocks(ino)
	case kind < 6 && len(b.free()) > 4:
		if b.name(up, ino, strconv.Itoa(ino)) {
			b.add(ino, api.ModeDir)
			b.page(ino, 0, entry(ino, "."), entry(up, ".."))
			b.truth[ino]++
			b.truth[up]++
			b.dirs = append(b.dirs, ino)
		}
	default:
		if len(b.free()) > 4 && b.name(up, ino, strconv.Itoa(ino)) {
			b.add(ino, api.ModeFile)
			b.anyBlocks(ino)
			if again := b.dirs[b.source.Intn(len(b.dirs))]; b.source.Intn(3) == 0 && len(b.free()) > 4 {
				b.name(again, ino, "again"+strconv.Itoa(ino))
			}
		}
	}
}

// anyBlocks gives an inode some blocks, near the edges of its addresses.
func (b *builder) anyBlocks(ino int) {
	for range b.source.Intn(4) {
		if len(b.free()) > 3 {
			b.grow(ino, []int{0, 1, 3, 4, 5, 67, 68, 69, 131, 132, 4163}[b.source.Intn(11)])
		}
	}
}

// name puts a name into a directory, if there is room.
func (b *builder) name(dir, ino int, name string) bool {
	for i := range b.get(dir).Size/128 + 1 {
		if i == b.get(dir).Size/128 {
			b.page(dir, i)
		}
		if b.source.Intn(3) == 0 && len(b.free()) > 3 && i < 5 {
			continue // so that directories have several blocks
		}
		at := b.addr(dir, i)
		page, _, e := dirs.With(b.image[at], entry(ino, name))
		if e == api.OK {
			copy(b.image[at], page)
			b.truth[ino]++
			return true
		}
	}
	return false
}
