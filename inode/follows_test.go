package inode

import (
	"math/rand"
	"reflect"
	"slices"
	"testing"

	"bollard/alloc"
	"bollard/api"
	"bollard/volume"
)

const mostPlaces = 4 + 64 + 64*64

func anyGeom(source *rand.Rand) api.Geom {
	inodes := 4 * (1 + source.Intn(16))
	least := max(8, 3+inodes/4)
	top := []int{least, least + 10, least + 40}[source.Intn(3)]
	return api.Geom{Groups: 1 + source.Intn(8), Blocks: least + source.Intn(top-least+1), Inodes: inodes}
}

// user has inodes of a volume, grows and clears them, and holds what it is told
// against what the blocks' bytes tell.
type user struct {
	t      *testing.T
	source *rand.Rand
	v      *volume.Volume
	g      api.Geom
	files  map[int]api.Dinode
}

// free are the blocks of data that are not allocated.
func (u *user) free(image [][]byte) []int {
	var out []int
	for b := range image {
		if bit := b % u.g.Blocks; bit >= 2+u.g.Inodes/4 && !isSet(image[b-bit+1], blocksAt, bit) {
			out = append(out, b)
		}
	}
	return out
}

// all is the addresses of all blocks that an inode may have.
func (u *user) all(image [][]byte, d api.Dinode) []int {
	out := make([]int, mostPlaces)
	for i := range out {
		out[i] = reader(image).addr(d, i)
	}
	return out
}

// anyPlace is one that is likely to be near others.
func (u *user) anyPlace() int {
	switch u.source.Intn(4) {
	case 0:
		return u.source.Intn(4)
	case 1:
		return 4 + u.source.Intn(64)
	case 2:
		return 68 + u.source.Intn(130)
	}
	return u.source.Intn(mostPlaces)
}

// anyFile is one of the inodes, in order of their numbers.
func (u *user) anyFile() int {
	var l []int
	for ino := range u.files {
		l = append(l, ino)
	}
	slices.Sort(l)
	return l[u.source.Intn(len(l))]
}

func (u *user) begin() {
	ino, a, e := alloc.Inode(u.v, u.g, u.source.Intn(u.g.Groups), false)
	if e == api.ErrSpace {
		return
	}
	answers(u.t, api.OK, e)
	u.files[ino] = api.Dinode{Mode: api.ModeFile, Links: 1}
	_, e = Put(u.v, u.g, ino, u.files[ino], []int{a})
	answers(u.t, api.OK, e)
}

func (u *user) grow() {
	ino, i := u.anyFile(), u.anyPlace()
	was, last := now(u.t, u.v), u.v.Last()
	free := u.free(was)
	want := u.all(was, u.files[ino])
	b, d, ahead, e := Grow(u.v, u.g, ino, u.files[ino], i)
	is := now(u.t, u.v)
	if e == api.ErrSpace {
		if len(free) >= 3 || want[i] != 0 || !reflect.DeepEqual(is, was) || u.v.Last() != last {
			u.t.Fatal("no room, though there is, or something has changed", len(free))
		}
		return
	}
	answers(u.t, api.OK, e)
	if want[i] != 0 && (b != want[i] || d != u.files[ino] || len(ahead) != 0 || u.v.Last() != last) {
		u.t.Fatalf("block %d is there: %d, told is %d", i, want[i], b)
	}
	if want[i] == 0 && (!slices.Contains(free, b) || slices.Contains(u.free(is), b)) {
		u.t.Fatalf("block %d was allocated, or is not", b)
	}
	want[i] = b
	if got := u.all(is, d); !slices.Equal(got, want) {
		u.t.Fatal("another block's address has turned")
	}
	if got, e := Addr(u.v, u.g, d, i); got != b || e != api.OK {
		u.t.Fatal(got, e)
	}
	u.files[ino] = d
	_, e = Put(u.v, u.g, ino, d, ahead)
	answers(u.t, api.OK, e)
}

func (u *user) clear() {
	ino := u.anyFile()
	blocks, e := Span(u.v, u.g, u.files[ino])
	answers(u.t, api.OK, e)
	was := u.free(now(u.t, u.v))
	id, e := Clear(u.v, u.g, ino, nil)
	if e != api.OK || id != u.v.Last() {
		u.t.Fatal(id, e)
	}
	want := append(was, blocks...)
	slices.Sort(want)
	if got := u.free(now(u.t, u.v)); !slices.Equal(got, want) {
		u.t.Fatal("other blocks than the inode's are free")
	}
	if d, e := Get(u.v, u.g, ino); d != (api.Dinode{}) || e != api.OK {
		u.t.Fatal(d, e)
	}
	if has, e := alloc.HasInode(u.v, u.g, ino); has || e != api.OK {
		u.t.Fatal(has, e)
	}
	delete(u.files, ino)
}

// eachOnce fails if a block is had twice, or is had and not allocated.
func (u *user) eachOnce() {
	image := now(u.t, u.v)
	seen := u.free(image)
	for ino, d := range u.files {
		if got, e := Get(u.v, u.g, ino); got != d || e != api.OK {
			u.t.Fatal(got, e)
		}
		span, e := Span(u.v, u.g, d)
		if want := reader(image).span(d); e != api.OK || !slices.Equal(span, want) {
			u.t.Fatal(span, want, e)
		}
		seen = append(seen, span...)
	}
	slices.Sort(seen)
	if len(seen) != u.g.Groups*(u.g.Blocks-2-u.g.Inodes/4) || len(slices.Compact(seen)) != len(seen) {
		u.t.Fatal("a block has two inodes, or none, or is not allocated")
	}
}

// step does one thing, and now and then writes something.
func (u *user) step() {
	switch what := u.source.Intn(12); {
	case len(u.files) == 0 || what == 0:
		u.begin()
	case what == 1:
		u.clear()
	case what == 2:
		for _, b := range u.v.Ready() {
			if u.source.Intn(2) == 0 && len(u.v.Way()) < api.MaxQueue {
				answers(u.t, api.OK, u.v.Write(b))
			}
		}
	case what == 3:
		for len(u.v.Way()) > 0 {
			answers(u.t, api.OK, u.v.Complete(u.source.Intn(len(u.v.Way())), true))
		}
	default:
		u.grow()
	}
}

// TestP13_5_6_7Model: grown, each once, cleared.
func TestP13_5_6_7Model(t *testing.T) {
	for seed := range int64(40) {
		source := rand.New(rand.NewSource(seed))
		g := anyGeom(source)
		_, v := open(t, dirtied(g), 1+source.Intn(64))
		u := &user{t: t, source: source, v: v, g: g, files: map[int]api.Dinode{}}
		for range 60 {
			u.step()
		}
		u.eachOnce()
	}
}

// TestP13_6TwoInodes: two inodes that grow in turns never have one block.
func TestP13_6TwoInodes(t *testing.T) {
	_, v := open(t, dirtied(wide), 8)
	ones := map[int]int{}
	two := [2]api.Dinode{}
	for i := range 14 {
		for k := range two {
			b, d, _, e := Grow(v, wide, 3+k, two[k], i)
			if e != api.OK || ones[b] != 0 {
				t.Fatal(i, k, b, e)
			}
			ones[b], two[k] = 1, d
		}
	}
	for k := range two {
		if ones[two[k].Single] != 0 || two[k].Single == 0 {
			t.Fatal(two[k])
		}
	}
}

// TestP13_7GivenAgain: what an inode had may be given to another one.
func TestP13_7GivenAgain(t *testing.T) {
	g := api.Geom{Groups: 1, Blocks: 10, Inodes: 4} // seven blocks of data
	_, v := open(t, dirtied(g), 8)
	for range 5 {
		ino, a, e := alloc.Inode(v, g, 0, false)
		if ino != 3 || e != api.OK {
			t.Fatal(ino, e)
		}
		d, needs := api.Dinode{Mode: api.ModeFile}, []int{a}
		for _, i := range []int{0, 1, 9, 10, 4000} { // with three indirect ones: one too many
			b, grown, ahead, e := Grow(v, g, ino, d, i)
			if i == 4000 {
				if e != api.ErrSpace || b != 0 {
					t.Fatal(b, e)
				}
				continue
			}
			answers(t, api.OK, e)
			d, needs = grown, append(needs, ahead...)
		}
		_, e = Put(v, g, ino, d, needs)
		answers(t, api.OK, e)
		_, e = Clear(v, g, ino, nil)
		answers(t, api.OK, e)
		if blocks, inodes, e := alloc.Room(v, g); blocks != 7 || inodes != 1 || e != api.OK {
			t.Fatal(blocks, inodes, e)
		}
	}
}
