package check

import (
	"maps"
	"slices"

	"bollard/api"
	"bollard/dirs"
	"bollard/layout"
)

// book tells chapter 19 over again, of a whole image: sets, and each sentence
// for itself.
type book struct {
	*world
	gen    int
	listed map[int][]api.Entry // what list told already
}

// readBook is all steps that there are of an image.
func readBook(w *world, gen int) []done {
	return (&book{world: w, gen: gen, listed: map[int][]api.Entry{}}).steps()
}

func (b *book) isData(at int) bool {
	return at > 0 && at < b.g.Groups*b.g.Blocks && at%b.g.Blocks >= b.data()
}

// node is a free one where there is none that may be.
func (b *book) node(ino int) api.Dinode {
	if ino >= b.inodes() {
		return api.Dinode{}
	}
	d, e := layout.DecodeDinode(b.raw(ino))
	if e != api.OK {
		return api.Dinode{}
	}
	return d
}

// below is the addresses in an indirect block that are blocks of data, by their
// places; none, if it is no block of data itself, or none that may be.
func (b *book) below(at int) map[int]int {
	out := map[int]int{}
	if !b.isData(at) {
		return out
	}
	for place := range 64 {
		address := b.fanAt(at, place)
		if address > 2047 {
			return nil
		}
		if b.isData(address) {
			out[place] = address
		}
	}
	return out
}

// all is an inode's blocks by their numbers, and its indirect blocks, as far as
// they are blocks of data.
func (b *book) all(d api.Dinode) (blocks map[int]int, above []int) {
	blocks = map[int]int{}
	for i, at := range d.Direct {
		if b.isData(at) {
			blocks[i] = at
		}
	}
	for place, at := range b.below(d.Single) {
		blocks[4+place] = at
	}
	for high, at := range b.below(d.Double) {
		above = append(above, at)
		for low, at := range b.below(at) {
			blocks[4+64+64*high+low] = at
		}
	}
	for _, at := range []int{d.Single, d.Double} {
		if b.isData(at) {
			above = append(above, at)
		}
	}
	return blocks, above
}

// owned is the blocks of data that belong to used inodes.
func (b *book) owned() map[int]bool {
	out := map[int]bool{}
	for ino := range b.inodes() {
		blocks, above := b.all(b.node(ino))
		for _, at := range slices.AppendSeq(above, maps.Values(blocks)) {
			out[at] = true
		}
	}
	return out
}

func (b *book) list(dir int) []api.Entry {
	if l, known := b.listed[dir]; known {
		return l
	}
	d := b.node(dir)
	blocks, _ := b.all(d)
	var out []api.Entry
	for i := range d.Size / 128 {
		if blocks[i] == 0 {
			continue
		}
		l, e := dirs.Decode(b.image[blocks[i]])
		for _, one := range l {
			if e == api.OK && one.Ino != 0 {
				out = append(out, one)
			}
		}
	}
	b.listed[dir] = out
	return out
}

// met grows, until all that is named by what was met is in it.
func (b *book) met() map[int]bool {
	out := map[int]bool{}
	if b.node(2).Mode == api.ModeDir {
		out[2] = true
	}
	for many := -1; many != len(out); {
		many = len(out)
		for ino := range b.inodes() {
			if !out[ino] || b.node(ino).Mode != api.ModeDir {
				continue
			}
			for _, e := range b.list(ino) {
				if e.Name != "." && e.Name != ".." && b.node(e.Ino).Mode != api.ModeFree {
					out[e.Ino] = true
				}
			}
		}
	}
	return out
}

// bit tells whether a bit of a group's header is set.
func (b *book) bit(group, at, bit int) bool {
	header := b.image[group*b.g.Blocks+1]
	_, e := layout.DecodeGroup(header)
	return e == api.OK && isSet(header, at, bit)
}

func (b *book) steps() []done {
	out := slices.Repeat([]done{{pass: 1}}, b.inodes())
	met, links := b.met(), map[int]int{}
	for ino := range b.inodes() {
		if met[ino] && b.node(ino).Mode == api.ModeDir {
			out = append(out, done{pass: 2})
			for _, e := range b.list(ino) {
				links[e.Ino]++
			}
		}
	}
	for ino := 2; ino < b.inodes(); ino++ {
		one, says := done{pass: 3}, b.node(ino).Links
		isLeak := b.bit(ino/b.g.Inodes, 4, ino%b.g.Inodes) || b.node(ino).Mode != api.ModeFree
		if met[ino] && says > links[ino] {
			one.asked = []api.Request{{Kind: api.LowerLinks, N: ino, To: links[ino], Gen: b.gen}}
		} else if !met[ino] && ino != 2 && isLeak {
			one.asked = []api.Request{{Kind: api.FreeInode, N: ino, Gen: b.gen}}
		}
		out = append(out, one)
	}
	owned := b.owned()
	for group := range b.g.Groups {
		one := done{pass: 4}
		for place := range b.g.Blocks {
			if at := group*b.g.Blocks + place; b.isData(at) && b.bit(group, 12, place) && !owned[at] {
				one.asked = append(one.asked, api.Request{Kind: api.FreeBlock, N: at, Gen: b.gen})
			}
		}
		out = append(out, one)
	}
	return out
}
