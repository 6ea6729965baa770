package alloc

import (
	"math/rand"
	"slices"
	"testing"

	"bollard/api"
	"bollard/volume"
)

// model is what the headers' bytes tell, said again as plainly as can be.
type model struct {
	g       api.Geom
	headers [][]byte
}

func modelOf(t *testing.T, v *volume.Volume, g api.Geom) model {
	t.Helper()
	m := model{g: g}
	for group := range g.Groups {
		header, e := v.Read(group*g.Blocks + 1)
		answers(t, api.OK, e)
		m.headers = append(m.headers, header)
	}
	return m
}

func (m model) set(group, at, bit int) bool {
	return m.headers[group][at+bit/8]>>(bit%8)&1 == 1
}

// blocks are a group's blocks of data that are not allocated.
func (m model) blocks(group int) []int {
	var out []int
	for bit := 2 + m.g.Inodes/4; bit < m.g.Blocks; bit++ {
		if !m.set(group, blocksAt, bit) {
			out = append(out, group*m.g.Blocks+bit)
		}
	}
	return out
}

// inodes are a group's inodes that are not allocated.
func (m model) inodes(group int) []int {
	var out []int
	for bit := range m.g.Inodes {
		if ino := group*m.g.Inodes + bit; ino > 1 && !m.set(group, inodesAt, bit) {
			out = append(out, ino)
		}
	}
	return out
}

// sum is what all groups have.
func (m model) sum(of func(group int) []int) []int {
	var out []int
	for group := range m.g.Groups {
		out = append(out, of(group)...)
	}
	return out
}

// nearest is the first of what groups have, from near on; 0 without one.
func (m model) nearest(near int, of func(group int) []int) int {
	for k := range m.g.Groups {
		if l := of((near + k) % m.g.Groups); len(l) > 0 {
			return l[0]
		}
	}
	return 0
}

// emptiest is the first inode of the group that has most.
func (m model) emptiest(near int) int {
	var best []int
	for k := range m.g.Groups {
		if l := m.inodes((near + k) % m.g.Groups); len(l) > len(best) {
			best = l
		}
	}
	if best == nil {
		return 0
	}
	return best[0]
}

// turned is the bits in which two models' headers part: the group, and the
// bit of the header.
func turned(a, b model) [][2]int {
	var out [][2]int
	for group := range a.headers {
		for bit := range api.Size * 8 {
			if a.set(group, 0, bit) != b.set(group, 0, bit) {
				out = append(out, [2]int{group, bit})
			}
		}
	}
	return out
}

// scrambled is an image whose headers' bits are of chance, so that one in
// rare is not set, those that are never given among them.
func scrambled(source *rand.Rand, g api.Geom, rare int) [][]byte {
	image := newImage(g)
	for group := range g.Groups {
		header := image[group*g.Blocks+1]
		for bit := range 40 * 8 {
			header[inodesAt+bit/8] &^= 1 << (bit % 8)
			if source.Intn(rare) > 0 {
				set(header, inodesAt, bit)
			}
		}
	}
	return image
}

func anyGeom(source *rand.Rand) api.Geom {
	inodes := 4 * (1 + source.Intn(16))
	least := max(8, 3+inodes/4)
	top := []int{least, least + 5, 256}[source.Intn(3)]
	return api.Geom{Groups: 1 + source.Intn(8), Blocks: least + source.Intn(top-least+1), Inodes: inodes}
}

// user calls a volume, and holds what it tells against what the headers told.
type user struct {
	t      *testing.T
	source *rand.Rand
	v      *volume.Volume
	g      api.Geom
	was    model
}

// given fails unless that was given, and its bit alone has turned.
func (u *user) given(what string, want, got, id int, e api.Errno, group, at, bit int) {
	u.t.Helper()
	is := modelOf(u.t, u.v, u.g)
	apart := turned(u.was, is)
	if want == 0 {
		if got != 0 || id != 0 || e != api.ErrSpace || len(apart) != 0 {
			u.t.Fatalf("%v: %s: %d, %d, %v; want ErrSpace", u.g, what, got, id, e)
		}
		return
	}
	if got != want || id != u.v.Last() || e != api.OK || !slices.Equal(apart, [][2]int{{group, at*8 + bit}}) || !is.set(group, at, bit) {
		u.t.Fatalf("%v: %s: %d, %d, %v; want %d; turned are %v", u.g, what, got, id, e, want, apart)
	}
}

func (u *user) block() {
	u.t.Helper()
	near := u.source.Intn(u.g.Groups)
	want := u.was.nearest(near, u.was.blocks)
	got, id, e := Block(u.v, u.g, near, nil)
	u.given("block", want, got, id, e, want/u.g.Blocks, blocksAt, want%u.g.Blocks)
}

func (u *user) inode(dir bool) {
	u.t.Helper()
	near := u.source.Intn(u.g.Groups)
	want := u.was.nearest(near, u.was.inodes)
	if dir {
		want = u.was.emptiest(near)
	}
	got, id, e := Inode(u.v, u.g, near, dir)
	u.given("inode", want, got, id, e, want/u.g.Inodes, inodesAt, want%u.g.Inodes)
}

// freed fails unless the bit, and it alone, is not set any more, or the call
// was refused as it must be.
func (u *user) freed(what string, n int, want api.Errno, id int, e api.Errno, group, at, bit int) {
	u.t.Helper()
	is := modelOf(u.t, u.v, u.g)
	apart := turned(u.was, is)
	if want == api.OK && u.was.set(group, at, bit) {
		if id != u.v.Last() || e != api.OK || !slices.Equal(apart, [][2]int{{group, at*8 + bit}}) || is.set(group, at, bit) {
			u.t.Fatalf("%v: %s %d: %d, %v; turned are %v", u.g, what, n, id, e, apart)
		}
		return
	}
	if want == api.OK {
		want = api.ErrFree
	}
	if id != 0 || e != want || len(apart) != 0 {
		u.t.Fatalf("%v: %s %d: %d, %v; want %v; turned are %v", u.g, what, n, id, e, want, apart)
	}
}

func (u *user) freeBlock() {
	u.t.Helper()
	b := u.source.Intn(u.g.Groups * u.g.Blocks)
	want := api.OK
	if b%u.g.Blocks < 2+u.g.Inodes/4 {
		want = api.ErrBlock
	}
	has, e := HasBlock(u.v, u.g, b)
	if e != want || want == api.OK && has != u.was.set(b/u.g.Blocks, blocksAt, b%u.g.Blocks) {
		u.t.Fatalf("%v: block %d: %t, %v", u.g, b, has, e)
	}
	id, e := FreeBlock(u.v, u.g, b, nil)
	u.freed("block", b, want, id, e, b/u.g.Blocks, blocksAt, b%u.g.Blocks)
}

func (u *user) freeInode() {
	u.t.Helper()
	ino := u.source.Intn(u.g.Groups * u.g.Inodes)
	want := api.OK
	if ino <= 2 {
		want = api.ErrInode
	}
	has, e := HasInode(u.v, u.g, ino)
	if e != api.OK || has != u.was.set(ino/u.g.Inodes, inodesAt, ino%u.g.Inodes) {
		u.t.Fatalf("%v: inode %d: %t, %v", u.g, ino, has, e)
	}
	id, e := FreeInode(u.v, u.g, ino, nil)
	u.freed("inode", ino, want, id, e, ino/u.g.Inodes, inodesAt, ino%u.g.Inodes)
}

// room holds Room against what the headers tell.
func (u *user) room() {
	u.t.Helper()
	has(u.t, u.v, u.g, len(u.was.sum(u.was.blocks)), len(u.was.sum(u.was.inodes)))
}

// TestP11_5GivenOnce: what is given was not allocated and is then, what is
// freed the other way round, and nothing else turns; P11.7: ErrSpace is told
// just where there is no room.
func TestP11_5GivenOnce(t *testing.T) {
	for seed := range int64(150) {
		source := rand.New(rand.NewSource(seed))
		g := anyGeom(source)
		rare := []int{1, 2, 20, 300}[source.Intn(4)]
		_, v := open(t, scrambled(source, g, rare), 1+source.Intn(8))
		u := user{t: t, source: source, v: v, g: g}
		for range 60 {
			u.was = modelOf(t, v, g)
			switch source.Intn(7) {
			case 0, 1:
				u.block()
			case 2:
				u.inode(false)
			case 3:
				u.inode(true)
			case 4:
				u.freeBlock()
			case 5:
				u.freeInode()
			case 6:
				u.room()
				for _, b := range v.Ready() { // whatever is on the disk already
					v.Write(b)
				}
				v.Complete(0, source.Intn(3) > 0)
			}
		}
	}
}

func TestP11_6TakenBack(t *testing.T) {
	_, v := fresh(t, small, 2)
	for n, want := range []int{4, 5, 6, 7} {
		gives(t, v, want)(Block(v, small, 0, nil))
		takes(t, v)(FreeBlock(v, small, want, nil))
		has(t, v, small, 14-n, 9)
		gives(t, v, want)(Block(v, small, 0, nil))
	}
	takes(t, v)(FreeBlock(v, small, 6, nil))
	gives(t, v, 6)(Block(v, small, 0, nil)) // none but it is left there
	for _, dir := range []bool{false, true} {
		gives(t, v, 8)(Inode(v, small, 2, dir))
		takes(t, v)(FreeInode(v, small, 8, nil))
	}
}

func TestP11_7NoSpace(t *testing.T) {
	for near := range 3 {
		d, v := fresh(t, small, 2)
		for blocks := 14; blocks > 0; blocks-- {
			has(t, v, small, blocks, 9)
			if _, _, e := Block(v, small, near, nil); e != api.OK {
				t.Fatalf("%v, with room for %d", e, blocks)
			}
		}
		has(t, v, small, 0, 9)
		stays(t, d, v, api.ErrSpace, askBlock(v, small, near))
		for inodes := 9; inodes > 0; inodes-- {
			has(t, v, small, 0, inodes)
			if _, _, e := Inode(v, small, near, inodes%2 == 0); e != api.OK {
				t.Fatalf("%v, with room for %d", e, inodes)
			}
		}
		for _, dir := range []bool{false, true} {
			stays(t, d, v, api.ErrSpace, askInode(v, small, near, dir))
		}
		takes(t, v)(FreeBlock(v, small, 13, nil))
		has(t, v, small, 1, 0)
		gives(t, v, 13)(Block(v, small, near, nil))
		stays(t, d, v, api.ErrSpace, askBlock(v, small, near))
		takes(t, v)(FreeInode(v, small, 7, nil))
		gives(t, v, 7)(Inode(v, small, near, true))
	}
}
