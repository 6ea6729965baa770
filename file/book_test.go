package file

import (
	"bytes"
	"slices"

	"bollard/api"
	"bollard/layout"
)

// Where a header's bits of blocks begin, as chapter 3 tells it.
const blocksAt = 12

// step is a patch: bytes of a block, and the numbers of those that it needs.
type step struct {
	block, off int
	bytes      []byte
	needs      []int
}

// book is a volume by definition: its blocks as they were and as they are now,
// and the patches that led there, the first of which has the number 1.
type book struct {
	g        api.Geom
	was, now [][]byte
	steps    []step
}

// newBook has an empty file 3, and a directory 2 without blocks. All blocks of
// data are free, and full of bytes that nobody wants.
func newBook(g api.Geom) *book {
	k := &book{g: g}
	for b := range g.Groups * g.Blocks {
		fill := byte(0)
		if b%g.Blocks >= k.data() {
			fill = 0xee
		}
		k.now = append(k.now, bytes.Repeat([]byte{fill}, api.Size))
	}
	for group := range g.Groups {
		header := api.Group{Number: group}
		for bit := range k.data() {
			header.Blocks[bit/8] |= 1 << (bit % 8)
		}
		k.now[group*g.Blocks+1], _ = layout.EncodeGroup(header)
	}
	k.put(2, api.Dinode{Mode: api.ModeDir, Links: 2})
	k.put(3, api.Dinode{Mode: api.ModeFile, Links: 1})
	return k.anew()
}

// anew is a book of the blocks as they are now, without patches.
func (k *book) anew() *book {
	return &book{g: k.g, was: cloned(k.now), now: cloned(k.now)}
}

func cloned(image [][]byte) [][]byte {
	var out [][]byte
	for _, b := range image {
		out = append(out, slices.Clone(b))
	}
	return out
}

// data is where a group's blocks of data begin.
func (k *book) data() int {
	return 2 + k.g.Inodes/4
}

// change writes a patch down: its number.
func (k *book) change(block, off int, bytes []byte, needs ...int) int {
	k.steps = append(k.steps, step{block, off, slices.Clone(bytes), slices.Clone(needs)})
	copy(k.now[block][off:], bytes)
	return len(k.steps)
}

// bit is the header's block, the byte there, and the bit in that byte of a
// block.
func (k *book) bit(b int) (int, int, byte) {
	place := b % k.g.Blocks
	return b - place + 1, blocksAt + place/8, 1 << (place % 8)
}

func (k *book) isFree(b int) bool {
	header, at, mask := k.bit(b)
	return k.now[header][at]&mask == 0
}

// turn turns a block's bit.
func (k *book) turn(b int, needs ...int) int {
	header, at, mask := k.bit(b)
	return k.change(header, at, []byte{k.now[header][at] ^ mask}, needs...)
}

// free are the blocks of data that are not allocated, as they are given near a
// group.
func (k *book) free(near int) []int {
	var out []int
	for gone := range k.g.Groups {
		first := (near + gone) % k.g.Groups * k.g.Blocks
		for b := first + k.data(); b < first+k.g.Blocks; b++ {
			if k.isFree(b) {
				out = append(out, b)
			}
		}
	}
	return out
}

// take allocates all blocks of data but the first so many that are free,
// without any patch: a book is made of these.
func (k *book) take(left int) *book {
	for _, b := range k.free(0)[left:] {
		k.turn(b)
	}
	return k.anew()
}

func (k *book) place(ino int) (int, int) {
	group, bit := ino/k.g.Inodes, ino%k.g.Inodes
	return group*k.g.Blocks + 2 + bit/4, bit % 4 * 32
}

func (k *book) put(ino int, d api.Dinode, needs ...int) int {
	block, at := k.place(ino)
	bytes, e := layout.EncodeDinode(d)
	if e != api.OK {
		panic(e)
	}
	return k.change(block, at, bytes, needs...)
}

func (k *book) get(ino int) api.Dinode {
	block, at := k.place(ino)
	d, e := layout.DecodeDinode(k.now[block][at : at+32])
	if e != api.OK {
		panic(e)
	}
	return d
}

// at is an address in an indirect block; 0 of no block.
func (k *book) at(block, place int) int {
	if block == 0 {
		return 0
	}
	return int(k.now[block][2*place]) + int(k.now[block][2*place+1])<<8
}

// addr is the address of a file's block.
func (k *book) addr(d api.Dinode, i int) int {
	switch {
	case i < 4:
		return d.Direct[i]
	case i < 68:
		return k.at(d.Single, i-4)
	}
	return k.at(k.at(d.Double, (i-68)/64), (i-68)%64)
}

// below is an indirect block, and the addresses in it.
func (k *book) below(block int) []int {
	out := []int{block}
	for place := range 64 {
		out = append(out, k.at(block, place))
	}
	return some(out)
}

func (k *book) span(d api.Dinode) []int {
	out := append(slices.Clone(d.Direct[:]), k.below(d.Single)...)
	out = append(out, d.Double)
	for place := range 64 {
		out = append(out, k.below(k.at(d.Double, place))...)
	}
	return some(out)
}

// some are those that are not 0.
func some(l []int) []int {
	return slices.DeleteFunc(l, func(b int) bool { return b == 0 })
}

// give allocates a block, and fills it with noughts: it, and the two patches.
func (k *book) give(ino int) (int, []int, bool) {
	free := k.free(ino / k.g.Inodes)
	if len(free) == 0 {
		return 0, nil, false
	}
	bit := k.turn(free[0])
	noughts := k.change(free[0], 0, make([]byte, api.Size), bit)
	return free[0], []int{bit, noughts}, true
}

// into gives a block, whose address is to stand in an inode.
func (k *book) into(ino int, field *int, ahead *[]int) bool {
	if *field != 0 {
		return true
	}
	b, two, ok := k.give(ino)
	*field = b
	*ahead = append(*ahead, two...)
	return ok
}

// under gives a block, whose address is to stand in an indirect one.
func (k *book) under(ino, block, place int, ahead *[]int) bool {
	if k.at(block, place) != 0 {
		return true
	}
	b, two, ok := k.give(ino)
	if ok {
		*ahead = append(*ahead, k.change(block, 2*place, []byte{byte(b), byte(b >> 8)}, two...))
	}
	return ok
}

// grow is chapter 13's.
func (k *book) grow(ino int, d *api.Dinode, i int) ([]int, bool) {
	var ahead []int
	switch {
	case i < 4:
		return ahead, k.into(ino, &d.Direct[i], &ahead)
	case i < 68:
		ok := k.into(ino, &d.Single, &ahead) && k.under(ino, d.Single, i-4, &ahead)
		return ahead, ok
	}
	i -= 68
	ok := k.into(ino, &d.Double, &ahead) && k.under(ino, d.Double, i/64, &ahead) &&
		k.under(ino, k.at(d.Double, i/64), i%64, &ahead)
	return ahead, ok
}

// write is P15.2 of a file that is used, and of bytes that it may have.
func (k *book) write(ino, off int, b []byte) ([]int, api.Errno) {
	if len(b) == 0 {
		return nil, api.OK
	}
	was := k.get(ino)
	is := was
	var needs, ids []int
	for i := off / 128; i <= (off+len(b)-1)/128; i++ {
		isNew := k.addr(is, i) == 0
		ahead, ok := k.grow(ino, &is, i)
		if !ok {
			return nil, api.ErrSpace
		}
		needs = append(needs, ahead...)
		from, end := max(off, i*128), min(off+len(b), (i+1)*128)
		part := b[from-off : end-off]
		if isNew {
			part = slices.Concat(make([]byte, from-i*128), part, make([]byte, (i+1)*128-end))
			from = i * 128
		}
		ids = append(ids, k.change(k.addr(is, i), from-i*128, part))
	}
	if off+len(b) > was.Size {
		is.Size = off + len(b)
		needs = append(needs, ids...)
	}
	if is != was {
		ids = append(ids, k.put(ino, is, needs...))
	}
	return ids, api.OK
}

// truncate is P15.3 of a file that is used, and of a size that it may have.
func (k *book) truncate(ino, size int) []int {
	was := k.get(ino)
	is := was
	is.Size = size
	if size >= was.Size {
		if size == was.Size {
			return nil
		}
		return []int{k.put(ino, is)}
	}
	for i := range 4 {
		if size <= i*128 {
			is.Direct[i] = 0
		}
	}
	if size <= 4*128 {
		is.Single = 0
	}
	if size <= 68*128 {
		is.Double = 0
	}
	put := k.put(ino, is)
	stay := k.span(is)
	for _, b := range k.span(was) {
		if !slices.Contains(stay, b) {
			k.turn(b, put)
		}
	}
	ids := append([]int{put}, k.clearIn(is.Single, 4, size, put)...)
	ids = append(ids, k.clearDouble(is.Double, size, put)...)
	if b := k.addr(is, size/128); size%128 > 0 && b != 0 {
		ids = append(ids, k.change(b, size%128, make([]byte, 128-size%128), put))
	}
	return ids
}

// clearIn clears the addresses of blocks of data past a size in an indirect
// block, whose first one is of the file's block first.
func (k *book) clearIn(block, first, size, put int) []int {
	var ids []int
	for place := 63; place >= 0 && block != 0; place-- {
		b := k.at(block, place)
		if b == 0 || (first+place)*128 < size {
			continue
		}
		id := k.change(block, 2*place, []byte{0, 0}, put)
		k.turn(b, id)
		ids = append(ids, id)
	}
	return ids
}

func (k *book) clearDouble(block, size, put int) []int {
	var ids []int
	for place := 63; place >= 0 && block != 0; place-- {
		inner := k.at(block, place)
		switch {
		case inner == 0:
		case (68+64*place)*128 < size:
			ids = append(ids, k.clearIn(inner, 68+64*place, size, put)...)
		default:
			id := k.change(block, 2*place, []byte{0, 0}, put)
			for _, b := range k.below(inner) {
				k.turn(b, id)
			}
			ids = append(ids, id)
		}
	}
	return ids
}

// read is P15.1 of a file that is used.
func (k *book) read(ino, off, n int) []byte {
	d := k.get(ino)
	var out []byte
	for at := off; at < d.Size && len(out) < n; at++ {
		c := byte(0)
		if b := k.addr(d, at/128); b != 0 {
			c = k.now[b][at%128]
		}
		out = append(out, c)
	}
	return out
}
