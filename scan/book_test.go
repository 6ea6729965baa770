package scan

import (
	"maps"
	"slices"

	"bollard/api"
	"bollard/dirs"
	"bollard/layout"
)

// book tells chapter 18 over again: sets, and each sentence for itself.
type book struct {
	image  [][]byte
	g      api.Geom
	inodes []api.Dinode
	spans  [][]int

	listed map[int][]api.Entry // what list told already
	met    map[int]bool        // what reached told already
}

// readBook is all that can be told of an image.
func readBook(image [][]byte) all {
	b := &book{image: image, listed: map[int][]api.Entry{}}
	out := all{accept: b.geometry()}
	if out.accept != api.OK {
		return out
	}
	out.geom = b.g
	for _, part := range []func() api.Errno{b.headers, b.allInodes, b.allDirectories, b.parents, b.low} {
		if out.accept = part(); out.accept != api.OK {
			return out
		}
	}
	for ino, span := range b.spans {
		for _, at := range span {
			out.claims = append(out.claims, api.Claim{Block: at, Ino: ino})
		}
	}
	out.reach = slices.Sorted(maps.Keys(b.reached()))
	for _, ino := range out.reach {
		out.links = append(out.links, link(ino, b.trueLinks(ino), b.inodes[ino].Links))
	}
	out.leaks = b.leaks(out)
	return out
}

func (b *book) geometry() api.Errno {
	if slices.ContainsFunc(b.image, func(l []byte) bool { return len(l) != 128 }) {
		return api.ErrForm
	}
	if len(b.image) == 0 {
		return api.ErrForm
	}
	super, e := layout.DecodeSuper(b.image[0])
	if e == api.OK && super.Geom.Groups*super.Geom.Blocks != len(b.image) {
		return api.ErrGeom
	}
	b.g = super.Geom
	return e
}

func (b *book) headers() api.Errno {
	for group := range b.g.Groups {
		header := b.image[group*b.g.Blocks+1]
		if _, e := layout.DecodeGroup(header); e != api.OK {
			return e
		}
		if int(header[2]) != group {
			return api.ErrForm
		}
	}
	return api.OK
}

func (b *book) blockSet(at int) bool {
	return isSet(b.image[at/b.g.Blocks*b.g.Blocks+1], 12, at%b.g.Blocks)
}

func (b *book) inodeSet(ino int) bool {
	return isSet(b.image[ino/b.g.Inodes*b.g.Blocks+1], 4, ino%b.g.Inodes)
}

func (b *book) isData(at int) bool {
	return at < len(b.image) && at%b.g.Blocks >= 2+b.g.Inodes/4
}

func (b *book) allInodes() api.Errno {
	w := &world{g: b.g, image: b.image}
	for ino := range b.g.Groups * b.g.Inodes {
		d, e := layout.DecodeDinode(w.raw(ino))
		if e != api.OK {
			return e
		}
		if ino < 2 && d.Mode != 0 {
			return api.ErrShape
		}
		b.inodes = append(b.inodes, d)
		b.spans = append(b.spans, nil)
		if e := b.span(ino, d); e != api.OK {
			return e
		}
	}
	if b.inodes[2].Mode != api.ModeDir {
		return api.ErrShape
	}
	return api.OK
}

func (b *book) span(ino int, d api.Dinode) api.Errno {
	for _, at := range d.Direct {
		if e := b.claim(ino, at, 0); e != api.OK {
			return e
		}
	}
	if e := b.claim(ino, d.Single, 1); e != api.OK {
		return e
	}
	return b.claim(ino, d.Double, 2)
}

func (b *book) claim(ino, at, above int) api.Errno {
	if at == 0 {
		return api.OK
	}
	if !b.isData(at) {
		return api.ErrOut
	}
	for _, span := range b.spans {
		if slices.Contains(span, at) {
			return api.ErrTwice
		}
	}
	if !b.blockSet(at) {
		return api.ErrUnset
	}
	b.spans[ino] = append(b.spans[ino], at)
	if above == 0 {
		return api.OK
	}
	if slices.ContainsFunc(b.fan(at), func(n int) bool { return n > 2047 }) {
		return api.ErrForm
	}
	for _, below := range b.fan(at) {
		if e := b.claim(ino, below, above-1); e != api.OK {
			return e
		}
	}
	return api.OK
}

// fan is what stands in an indirect block; 64 noughts of none.
func (b *book) fan(at int) []int {
	out := make([]int, 64)
	if at != 0 {
		for i := range out {
			out[i] = int(b.image[at][2*i]) + 256*int(b.image[at][2*i+1])
		}
	}
	return out
}

// list is a directory's entries that are not empty, if its blocks are there and
// may be.
func (b *book) list(dir int) ([]api.Entry, bool) {
	if l, known := b.listed[dir]; known {
		return l, true
	}
	d := b.inodes[dir]
	addresses := slices.Concat(d.Direct[:], b.fan(d.Single))
	for _, at := range b.fan(d.Double) {
		addresses = append(addresses, b.fan(at)...)
	}
	var out []api.Entry
	for _, at := range addresses[:d.Size/128] {
		if at == 0 {
			return nil, false
		}
		l, e := dirs.Decode(b.image[at])
		if e != api.OK {
			return nil, false
		}
		for _, e := range l {
			if e.Ino != 0 {
				out = append(out, e)
			}
		}
	}
	b.listed[dir] = out
	return out, true
}

// with is the inodes that a directory's entries of some names have.
func (b *book) with(dir int, of func(name string) bool) []int {
	l, _ := b.list(dir)
	var out []int
	for _, e := range l {
		if of(e.Name) {
			out = append(out, e.Ino)
		}
	}
	return out
}

func noDots(name string) bool { return name != "." && name != ".." }
func upwards(name string) bool {
	return name == ".."
}

func (b *book) allDirectories() api.Errno {
	order := []int{2}
	for i := 0; i < len(order); i++ {
		if e := b.directory(order[i]); e != api.OK {
			return e
		}
		for _, ino := range b.with(order[i], noDots) {
			if b.inodes[ino].Mode == api.ModeDir && !slices.Contains(order, ino) {
				order = append(order, ino)
			}
		}
	}
	return api.OK
}

func (b *book) directory(dir int) api.Errno {
	l, there := b.list(dir)
	if !there || !slices.Contains(l, entry(dir, ".")) {
		return api.ErrShape
	}
	for i, e := range l {
		for _, o := range l[:i] {
			if e.Name == o.Name {
				return api.ErrShape
			}
		}
	}
	for _, e := range l {
		if e.Ino >= len(b.inodes) || b.inodes[e.Ino].Mode == 0 {
			return api.ErrOut
		}
	}
	for _, e := range l {
		if !b.inodeSet(e.Ino) {
			return api.ErrUnset
		}
	}
	return api.OK
}

// reached grows until it stays.
func (b *book) reached() map[int]bool {
	if b.met != nil {
		return b.met
	}
	out := map[int]bool{2: true}
	for grown := true; grown; {
		grown = false
		for _, dir := range b.reachedDirs(out) {
			for _, ino := range b.with(dir, noDots) {
				grown = grown || !out[ino]
				out[ino] = true
			}
		}
	}
	b.met = out
	return out
}

func (b *book) reachedDirs(reached map[int]bool) []int {
	var out []int
	for _, ino := range slices.Sorted(maps.Keys(reached)) {
		if b.inodes[ino].Mode == api.ModeDir {
			out = append(out, ino)
		}
	}
	return out
}

func (b *book) parents() api.Errno {
	all := b.reachedDirs(b.reached())
	for _, dir := range all {
		right := slices.ContainsFunc(b.with(dir, upwards), func(up int) bool {
			if dir == 2 {
				return up == 2
			}
			return slices.Contains(all, up) && slices.Contains(b.with(up, noDots), dir)
		})
		if !right {
			return api.ErrShape
		}
	}
	return api.OK
}

func (b *book) trueLinks(ino int) int {
	n := 0
	for _, dir := range b.reachedDirs(b.reached()) {
		for _, named := range b.with(dir, func(string) bool { return true }) {
			if named == ino {
				n++
			}
		}
	}
	return n
}

func (b *book) low() api.Errno {
	for ino := range b.reached() {
		if b.inodes[ino].Links < b.trueLinks(ino) {
			return api.ErrLow
		}
	}
	return api.OK
}

func (b *book) leaks(told all) api.Found {
	var f api.Found
	for at := range b.image {
		if b.isData(at) && b.blockSet(at) && !slices.ContainsFunc(told.claims, func(c api.Claim) bool { return c.Block == at }) {
			f.Blocks = append(f.Blocks, at)
		}
	}
	for ino := 3; ino < len(b.inodes); ino++ {
		if (b.inodeSet(ino) || b.inodes[ino].Mode != 0) && !slices.Contains(told.reach, ino) {
			f.Inodes = append(f.Inodes, ino)
		}
	}
	for _, l := range told.links {
		if l.Says > l.True {
			f.Links = append(f.Links, l)
		}
	}
	return f
}
