package adjust

import (
	"math/rand"
	"reflect"
	"slices"
	"testing"

	"bollard/alloc"
	"bollard/api"
	"bollard/disk"
	"bollard/inode"
	"bollard/volume"
)

// twins are two volumes that were handed the same, but for what is tried: it is
// done to the one by Do, to the other by the calls that the chapter names.
type twins struct {
	t          *testing.T
	disk, copy *disk.Disk
	v, twin    *volume.Volume
}

func newTwins(t *testing.T, image [][]byte) twins {
	p := twins{t: t}
	p.disk, p.v = opened(t, image, 20)
	p.copy, p.twin = opened(t, image, 20)
	return p
}

// both makes a change of both.
func (p twins) both(b, off int, bytes []byte, needs ...int) {
	p.t.Helper()
	for _, v := range []*volume.Volume{p.v, p.twin} {
		_, e := v.Change(b, off, bytes, needs)
		answers(p.t, api.OK, e)
	}
}

func (p twins) same() {
	p.t.Helper()
	if got, want := stateOf(p.disk, p.v), stateOf(p.copy, p.twin); !reflect.DeepEqual(got, want) {
		p.t.Fatalf("it tells %v\nwant %v", got, want)
	}
	if !reflect.DeepEqual(now(p.t, p.v), now(p.t, p.twin)) {
		p.t.Fatal("blocks have other bytes")
	}
}

// drain writes blocks in some order, until all is on the disk: patches that need
// others are found by that.
func (p twins) drain(source *rand.Rand) {
	p.t.Helper()
	for len(p.v.Dirty()) > 0 {
		if ready := p.v.Ready(); len(ready) > 0 {
			b := ready[source.Intn(len(ready))]
			answers(p.t, api.OK, p.v.Write(b))
			answers(p.t, api.OK, p.twin.Write(b))
		}
		if n := len(p.v.Way()); n > 0 && source.Intn(2) == 0 {
			k := source.Intn(n)
			answers(p.t, api.OK, p.v.Complete(k, true))
			answers(p.t, api.OK, p.twin.Complete(k, true))
		}
		p.same()
	}
}

// call is what Do must come to.
type call func(v *volume.Volume) (int, api.Errno)

func freeBlock(b int) call {
	return func(v *volume.Volume) (int, api.Errno) { return alloc.FreeBlock(v, village, b, nil) }
}

func freeInode(ino int) call {
	return func(v *volume.Volume) (int, api.Errno) { return alloc.FreeInode(v, village, ino, nil) }
}

func clearInode(ino int) call {
	return func(v *volume.Volume) (int, api.Errno) { return inode.Clear(v, village, ino, nil) }
}

func putLinks(ino, links int) call {
	return func(v *volume.Volume) (int, api.Errno) {
		d, e := inode.Get(v, village, ino)
		if e != api.OK {
			return 0, e
		}
		d.Links = links
		return inode.Put(v, village, ino, d, nil)
	}
}

func TestP20_3Do(t *testing.T) {
	for _, x := range []struct {
		kind, n int
		open    []int
		want    call
		patches int
	}{
		{api.FreeBlock, 31, nil, freeBlock(31), 1}, {api.FreeBlock, 61, []int{61, 3}, freeBlock(61), 1},
		{api.FreeInode, 7, nil, clearInode(7), 6}, {api.FreeInode, 7, []int{3, 9}, clearInode(7), 6}, {api.FreeInode, 9, nil, clearInode(9), 3},
		{api.FreeInode, 10, nil, freeInode(10), 1}, {api.FreeInode, 11, nil, clearInode(11), 2}, {api.FreeInode, 12, nil, clearInode(12), 2},
		{api.LowerLinks, 2, nil, putLinks(2, 3), 1}, {api.LowerLinks, 2, []int{2}, putLinks(2, 3), 1}, {api.LowerLinks, 3, nil, putLinks(3, 1), 1}, {api.LowerLinks, 3, []int{3, 4}, putLinks(3, 1), 1},
		{api.LowerLinks, 7, nil, clearInode(7), 6}, {api.LowerLinks, 7, []int{12, 7}, putLinks(7, 0), 1}, {api.LowerLinks, 7, []int{12}, clearInode(7), 6},
		{api.LowerLinks, 9, nil, clearInode(9), 3}, {api.LowerLinks, 9, []int{9}, putLinks(9, 0), 1}, {api.LowerLinks, 11, nil, clearInode(11), 2}, {api.LowerLinks, 11, []int{11}, putLinks(11, 0), 1},
	} {
		for seed := range int64(6) {
			p := newTwins(t, yard().image)
			if seed > 0 { // patches that wait: of headers, of blocks of inodes, of blocks that nobody has
				p.both(62, 0, []byte{1})
				p.both(1, 4+1, []byte{0}, 1)
				p.both(33, 4+1, []byte{0}, 1)
				p.both(2, 0, make([]byte, 32), 2)
				p.both(3, 32, make([]byte, 32), 3)
			}
			last := p.v.Last()
			r := api.Request{Kind: x.kind, N: x.n, To: int(seed), Gen: 5}
			l, e := Do(p.v, village, x.open, r, 5)
			id, why := x.want(p.twin)
			answers(t, api.OK, why)
			if e != api.OK || !slices.Equal(l, []int{id}) || p.v.Last() != last+x.patches {
				t.Fatal(r, l, e, id, p.v.Last())
			}
			p.same()
			if seed == 0 { // done, it is refused
				refuses(t, again(x.kind, x.n, x.open), p.disk, p.v, village, x.open, r, 5)
			}
			p.drain(rand.New(rand.NewSource(seed)))
		}
	}
}

// again is what a request of the yard is answered that was done already.
func again(kind, n int, open []int) api.Errno {
	stays := n < 5 || slices.Contains(open, n)
	if kind == api.LowerLinks && stays {
		return api.ErrArg
	}
	return api.ErrFree
}

// TestP20_3To: the links are those of now, whatever the checker has counted.
func TestP20_3To(t *testing.T) {
	for _, to := range append(wild(), 0, 1, 2, 3) {
		_, v := opened(t, yard().image, 20)
		_, e := Do(v, village, nil, api.Request{Kind: api.LowerLinks, N: 3, To: to, Gen: 1}, 1)
		answers(t, api.OK, e)
		d, e := inode.Get(v, village, 3)
		want := yard().get(3)
		want.Links = 1
		if d != want || e != api.OK {
			t.Fatal(to, d, e)
		}
	}
}

// TestP20_3Anew: what the checker saw is old; what is now counts.
func TestP20_3Anew(t *testing.T) {
	d, v := opened(t, yard().image, 20)
	block := api.Request{Kind: api.FreeBlock, N: 31, Gen: 1}
	node := api.Request{Kind: api.FreeInode, N: 10, Gen: 1}
	links := api.Request{Kind: api.LowerLinks, N: 3, To: 1, Gen: 1}
	last := v.Last()
	_, e := inode.Put(v, village, 6, api.Dinode{Mode: api.ModeFile, Links: 1, Size: 1, Direct: [4]int{31}}, nil) // the block was given to /f
	answers(t, api.OK, e)
	refuses(t, api.ErrHeld, d, v, village, nil, block, 1)
	answers(t, api.OK, v.Undo(last))
	_, e = alloc.FreeBlock(v, village, 31, nil)
	answers(t, api.OK, e)
	refuses(t, api.ErrFree, d, v, village, nil, block, 1)
	answers(t, api.OK, v.Undo(last))

	_, e = inode.Put(v, village, 10, api.Dinode{Mode: api.ModeFile, Links: 1}, nil)
	answers(t, api.OK, e)
	answers(t, api.OK, May(v, village, nil, node, 1))
	name, why := named(10, "new")
	answers(t, api.OK, why)
	_, e = v.Change(4, 5*16, name, nil)
	answers(t, api.OK, e)
	refuses(t, api.ErrHeld, d, v, village, nil, node, 1)
	answers(t, api.OK, v.Undo(last))

	for at, want := range []api.Errno{api.OK, api.ErrArg} { // two names more: it has as many links as it says
		name, why := named(3, string(rune('x'+at)))
		answers(t, api.OK, why)
		_, e = v.Change(4, (5+at)*16, name, nil)
		answers(t, api.OK, e)
		if want == api.OK {
			answers(t, want, May(v, village, nil, links, 1))
		} else {
			refuses(t, want, d, v, village, nil, links, 1)
		}
	}
	answers(t, api.OK, v.Undo(last))
	l, e := Do(v, village, nil, links, 1)
	if got, _ := inode.Get(v, village, 3); !slices.Equal(l, []int{1}) || e != api.OK || got.Links != 1 {
		t.Fatal(l, e, got)
	}
}

// TestP20_3Fails: where Do's own reads fail, behind May, nothing has changed.
// The block that fails lies in a buffer when the image is read, and no more
// behind that.
func TestP20_3Fails(t *testing.T) {
	g := api.Geom{Groups: 3, Blocks: 32, Inodes: 8}
	build := func() *world {
		w := newWorld(g)
		w.add(3, api.ModeFile)
		w.grow(3, 0) // 5
		w.edit(3, func(d *api.Dinode) { d.Direct[1] = 40 })
		w.inode(4, true)
		for _, b := range []int{9, 40, 41} {
			w.block(b, true)
		}
		return w
	}
	for _, x := range []struct{ kind, n, block int }{
		{api.FreeBlock, 9, 1}, {api.FreeBlock, 41, 33}, {api.FreeInode, 4, 1}, {api.FreeInode, 3, 1}, {api.FreeInode, 3, 2}, {api.FreeInode, 3, 33}, {api.LowerLinks, 3, 1}, {api.LowerLinks, 3, 33},
	} {
		d, v := opened(t, build().image, x.block+1)
		_, e := v.Read(x.block)
		answers(t, api.OK, e)
		answers(t, api.OK, d.Fail(x.block, 1))
		r := api.Request{Kind: x.kind, N: x.n, Gen: 1}
		was := stateOf(d, v)
		l, e := Do(v, g, nil, r, 1)
		if len(l) != 0 || e != api.ErrIO {
			t.Fatal(x, l, e)
		}
		if !reflect.DeepEqual(stateOf(d, v), was) || !reflect.DeepEqual(now(t, v), build().image) {
			t.Fatal("something has changed", x)
		}
		l, e = Do(v, g, nil, r, 1)
		if len(l) != 1 || e != api.OK {
			t.Fatal(x, l, e)
		}

		d, v = opened(t, build().image, x.block+1)
		_, e = v.Read(x.block)
		answers(t, api.OK, e)
		answers(t, api.OK, d.Fail(x.block, 1))
		answers(t, api.OK, May(v, g, nil, r, 1)) // May reads nothing twice
	}
}

// TestP20_3Frozen: a snapshot has what was.
func TestP20_3Frozen(t *testing.T) {
	_, v := opened(t, yard().image, 20)
	answers(t, api.OK, v.Freeze(9))
	was := now(t, v)
	for _, r := range []api.Request{{Kind: api.FreeBlock, N: 31, Gen: 1}, {Kind: api.FreeInode, N: 7, Gen: 1}, {Kind: api.LowerLinks, N: 2, Gen: 1}} {
		_, e := Do(v, village, nil, r, 1)
		answers(t, api.OK, e)
	}
	for b := range was {
		if old, e := v.Old(b); !slices.Equal(old, was[b]) || e != api.OK {
			t.Fatal(b, e)
		}
	}
}
