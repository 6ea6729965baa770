package check

import (
	"bytes"
	"slices"
	"testing"

	"bollard/api"
	"bollard/disk"
	"bollard/layout"
	"bollard/scan"
	"bollard/snap"
	"bollard/volume"
)

// kinds is the numbers that are asked for, by kind.
func kinds(l []api.Request) [4][]int {
	var out [4][]int
	for _, r := range l {
		out[r.Kind] = append(out[r.Kind], r.N)
	}
	return out
}

// tells fails unless a world that is not accepted has just these requests.
func tells(t *testing.T, w *world, blocks, inodes []int, links ...api.Request) []done {
	t.Helper()
	if scan.Accept(w.image) == api.OK {
		t.Fatal("this is no wrong image")
	}
	l := run(t, ofWorld(t, w))
	got := asked(l)
	by := kinds(got)
	low := slices.DeleteFunc(slices.Clone(got), func(r api.Request) bool { return r.Kind != api.LowerLinks })
	if !slices.Equal(by[api.FreeBlock], blocks) || !slices.Equal(by[api.FreeInode], inodes) || !slices.Equal(low, links) {
		t.Fatal(got)
	}
	return l
}

func lower(ino, to int) api.Request {
	return api.Request{Kind: api.LowerLinks, N: ino, To: to, Gen: 1}
}

// plain is a volume of one group, whose blocks of data begin at 4, with a file
// /a, 3, that has the block 5, and a directory /d, 4, that has the block 6.
func plain() *world {
	w := newWorld(api.Geom{Groups: 1, Blocks: 32, Inodes: 8})
	w.page(2, 0, entry(2, "."), entry(2, ".."), entry(3, "a"), entry(4, "d"))
	w.links(2, 3)
	w.add(3, api.ModeFile)
	w.grow(3, 0)
	w.add(4, api.ModeDir)
	w.page(4, 0, entry(4, "."), entry(2, ".."))
	w.links(4, 2)
	return w
}

func TestPlain(t *testing.T) {
	w := plain()
	answers(t, api.OK, scan.Accept(w.image))
	if got := asked(run(t, ofWorld(t, w))); len(got) != 0 {
		t.Fatal(got)
	}
}

// TestP19InodeNotDecoded: it counts as a free one: its blocks are nobody's, its
// name leads to nothing, its bit makes it a leak.
func TestP19InodeNotDecoded(t *testing.T) {
	w := plain()
	w.raw(3)[20] ^= 1
	tells(t, w, []int{5}, []int{3})
	w.inode(3, false)
	tells(t, w, []int{5}, nil)
	w = plain()
	w.raw(4)[31] ^= 1
	l := tells(t, w, []int{6}, []int{4}, lower(2, 2))
	if got := passes(t, l); got[2] != 1 {
		t.Fatal(got)
	}
	w = plain()
	copy(w.raw(3), bytes.Repeat([]byte{0xff}, 32))
	copy(w.raw(4), bytes.Repeat([]byte{0xff}, 32))
	tells(t, w, []int{5, 6}, []int{3, 4}, lower(2, 2))
}

// TestP19InodeFree: a name of a free inode is a link of it, and leads to
// nothing.
func TestP19InodeFree(t *testing.T) {
	w := plain()
	clear(w.raw(3))
	tells(t, w, []int{5}, []int{3})
}

// TestP19DirectoryNotDecoded: a block of a directory that can't be decoded is
// an empty one; the others count.
func TestP19DirectoryNotDecoded(t *testing.T) {
	twice := func(b []byte) { copy(b[48:64], b[32:48]) }
	for _, hurt := range []func(b []byte){
		func(b []byte) { b[127] = 1 },                                    // bytes of an entry that is none
		func(b []byte) { b[2] = 14 },                                     // a name that is too long
		func(b []byte) { b[32+3] = '/' },                                 // no name
		func(b []byte) { b[32+1] = 2 },                                   // inode 515
		func(b []byte) { copy(b, bytes.Repeat([]byte{0xff}, len(b))) },   //
		func(b []byte) { copy(b, bytes.Repeat([]byte{'a', 0}, len(b))) }, //
		twice,
	} {
		w := plain()
		hurt(w.image[4])
		l := tells(t, w, nil, []int{3, 4}, lower(2, 0))
		if got := passes(t, l); got[2] != 1 {
			t.Fatal(got)
		}
		w = plain()
		w.page(2, 1, entry(5, "x"))
		w.add(5, api.ModeFile)
		hurt(w.image[4])
		tells(t, w, nil, []int{3, 4}, lower(2, 0))
	}
}

// TestP19FanNotDecoded: an indirect block that can't be decoded belongs to its
// inode, and has no addresses.
func TestP19FanNotDecoded(t *testing.T) {
	build := func() (*world, api.Dinode, []int) {
		w := plain()
		for _, i := range []int{4, 68, 132} { // 7 and 8; 9, 10 and 11; 12 and 13
			w.grow(3, i)
		}
		answers(t, api.OK, scan.Accept(w.image))
		return w, w.get(3), []int{8, 10, 11, 12, 13}
	}
	w, d, below := build()
	w.image[d.Single][127] = 8 // the address 2048
	w.image[d.Double][127] = 8
	tells(t, w, below, nil)
	w, d, _ = build()
	w.image[d.Single][127] = 8
	tells(t, w, []int{8}, nil)
	w, d, _ = build()
	w.image[w.fanAt(d.Double, 1)][1] = 0xff
	tells(t, w, []int{13}, nil)
	w, d, _ = build()
	w.image[w.fanAt(d.Double, 0)][1] = 0xff
	tells(t, w, []int{11}, nil)
}

// TestP19AddressesPassedBy: addresses that are no blocks of data, in an inode
// and in its indirect blocks, lead nowhere.
func TestP19AddressesPassedBy(t *testing.T) {
	for _, wrong := range []int{1, 2, 3, 32, 33, 2047} {
		w := plain()
		w.edit(3, func(d *api.Dinode) { d.Direct = [4]int{wrong, 5, wrong, wrong}; d.Single, d.Double = wrong, wrong })
		tells(t, w, nil, nil)
		w = plain()
		for _, i := range []int{4, 6, 68, 132} { // 7, 8 and 9; 10, 11 and 12; 13 and 14
			w.grow(3, i)
		}
		d := w.get(3)
		w.fan(d.Single, 0, wrong)
		w.fan(d.Double, 0, wrong)
		tells(t, w, []int{8, 11, 12}, nil)
		w = plain() // what a directory has
		w.edit(2, func(d *api.Dinode) { d.Direct = [4]int{wrong, 4, wrong, wrong}; d.Size = 6 * 128; d.Single = wrong })
		tells(t, w, nil, nil)
		w.edit(2, func(d *api.Dinode) { d.Direct[1] = wrong })
		tells(t, w, []int{4}, []int{3, 4}, lower(2, 0))
	}
}

// TestP19NotDataLooked: what is no block of data is not looked into, even if it
// holds what might stand there.
func TestP19NotDataLooked(t *testing.T) {
	quiet := func(w *world) {
		t.Helper()
		d, _, s := taken(t, w, 1, 0, api.MaxCache)
		answers(t, api.OK, d.Fail(32, 1))
		if got := asked(run(t, begun(t, s))); !slices.Equal(got, wanted(1)) {
			t.Fatal(got)
		}
	}
	w := lost()
	clear(w.image[32]) // a superblock, which nobody asks
	w.fan(32, 0, 31)
	w.fan(32, 63, 61)
	w.edit(3, func(d *api.Dinode) { d.Single, d.Double = 32, 32 })
	quiet(w)
	w = lost()
	w.fan(w.get(6).Double, 5, 32)
	clear(w.image[32])
	w.fan(32, 0, 31)
	quiet(w)
	w = lost()
	w.page(9, 4, entry(7, "x"), entry(13, "y"))
	copy(w.image[32], w.image[w.addr(9, 4)])
	w.page(9, 4)
	w.edit(4, func(d *api.Dinode) { d.Direct[1], d.Size = 32, 2*128 })
	w.fan(w.get(9).Single, 2, 32)
	w.edit(9, func(d *api.Dinode) { d.Size = 7 * 128 })
	quiet(w)
}

// TestP19Shared: a block that several have is theirs, whoever is freed; one
// that is not allocated is no leak.
func TestP19Shared(t *testing.T) {
	w := plain()
	w.add(5, api.ModeFile)
	w.edit(5, func(d *api.Dinode) { d.Direct = [4]int{5, 5, 6, 4} })
	tells(t, w, nil, []int{5})
	w = plain()
	w.block(5, false)
	tells(t, w, nil, nil)
	w = plain()
	w.edit(3, func(d *api.Dinode) { d.Double = 7 }) // a ring: 7 leads to itself
	w.block(7, true)
	w.fan(7, 0, 7)
	w.fan(7, 63, 8)
	w.block(8, true)
	w.fan(8, 1, 9)
	w.block(9, true)
	w.block(10, true)
	tells(t, w, []int{10}, nil)
}

// TestP19Unused: the inodes 0 and 1 have blocks, if they are used; nothing is
// asked of them. 1 can be met, as a directory too.
func TestP19Unused(t *testing.T) {
	w := plain()
	for ino, b := range []int{7, 8} {
		w.put(ino, api.Dinode{Mode: api.ModeFile, Links: 9, Direct: [4]int{b}})
		w.block(b, true)
	}
	w.block(9, true)
	tells(t, w, []int{9}, nil)
	w = plain()
	w.put(1, api.Dinode{Mode: api.ModeDir, Links: 9})
	w.page(1, 0, entry(5, "x"))
	w.add(5, api.ModeFile)
	tells(t, w, nil, []int{5})
	w.page(2, 0, entry(2, "."), entry(2, ".."), entry(3, "a"), entry(4, "d"), entry(1, "one"))
	l := tells(t, w, nil, nil)
	if got := passes(t, l); got[2] != 3 {
		t.Fatal(got)
	}
}

// TestP19NoInode: names of inodes that the volume has not lead nowhere.
func TestP19NoInode(t *testing.T) {
	w := plain()
	w.page(2, 1, entry(8, "x"), entry(9, "y"), entry(511, "z"), entry(256, "w"))
	tells(t, w, nil, nil)
	w.page(4, 0, entry(4, "."), entry(511, ".."))
	tells(t, w, nil, nil, lower(2, 2))
	copy(w.image[0], w.raw(4)) // where an inode that there is not might be looked for
	copy(w.image[0][96:], w.raw(4))
	if got := passes(t, tells(t, w, nil, nil, lower(2, 2))); got[2] != 2 {
		t.Fatal(got)
	}
}

// TestP19Header: a header that can't be decoded has no bits; which number it
// says plays no part.
func TestP19Header(t *testing.T) {
	for _, at := range []int{0, 1, 3, 44, 127} {
		w := lost()
		w.image[1][at]++
		tells(t, w, []int{61, 63}, []int{7, 11, 12, 13, 14}, lower(2, 4), lower(3, 2), lower(4, 3))
		w = lost()
		w.image[33][at]++
		tells(t, w, []int{31}, []int{7, 11, 12, 14}, lower(2, 4), lower(3, 2), lower(4, 3))
	}
	w := lost()
	w.image[33][2] = 7
	tells(t, w, []int{31, 61, 63}, []int{7, 11, 12, 13, 14}, lower(2, 4), lower(3, 2), lower(4, 3))
	w.image[33][2] = 8
	tells(t, w, []int{31}, []int{7, 11, 12, 14}, lower(2, 4), lower(3, 2), lower(4, 3))
}

// TestP19Superblocks: what they say plays no part: the snapshot has a geometry.
func TestP19Superblocks(t *testing.T) {
	w := lost()
	for _, b := range []int{0, 32} {
		copy(w.image[b], bytes.Repeat([]byte{0xff}, 128))
	}
	tells(t, w, []int{31, 61, 63}, []int{7, 11, 12, 13, 14}, lower(2, 4), lower(3, 2), lower(4, 3))
	d, e := disk.Of(lost().image)
	answers(t, api.OK, e)
	v, e := volume.Open(d, 4)
	answers(t, api.OK, e)
	s, e := snap.Take(v, api.Geom{Groups: 1, Blocks: 32, Inodes: 8}, 1, 0) // the first group alone
	answers(t, api.OK, e)
	l := run(t, begun(t, s))
	if got := passes(t, l); got[1] != 8 || got[4] != 1 {
		t.Fatal(got)
	}
	if by := kinds(asked(l)); slices.ContainsFunc(by[api.FreeBlock], func(b int) bool { return b > 31 }) || !slices.Equal(by[api.FreeInode], []int{7}) {
		t.Fatal(by)
	}
}

// TestP19Size: only the blocks of a directory's Size have entries, and they
// have them wherever they stand.
func TestP19Size(t *testing.T) {
	for _, i := range []int{1, 3, 4, 67, 68, 131, 132, 4163} {
		w := plain()
		w.page(2, i, entry(5, "x"))
		w.add(5, api.ModeFile)
		if got := asked(run(t, ofWorld(t, w))); len(got) != 0 {
			t.Fatal(i, got)
		}
		w.edit(2, func(d *api.Dinode) { d.Size = i * 128 })
		if got := asked(run(t, ofWorld(t, w))); !slices.Equal(got, []api.Request{{Kind: api.FreeInode, N: 5, Gen: 1}}) {
			t.Fatal(i, got)
		}
		w.edit(2, func(d *api.Dinode) { d.Size = 0 })
		tells(t, w, nil, []int{3, 4, 5}, lower(2, 0))
	}
}

// TestP19Beyond: indirect blocks that have none of the Size's blocks are not
// looked into by pass 2.
func TestP19Beyond(t *testing.T) {
	for _, size := range []int{1, 4, 5, 68, 69, 132, 133} {
		w := plain()
		w.edit(2, func(d *api.Dinode) { d.Size = size * 128 })
		for _, i := range []int{4, 68, 132} {
			w.grow(2, i)
		}
		d := w.get(2)
		for k, x := range []struct{ block, from int }{{d.Single, 5}, {d.Double, 69}, {w.fanAt(d.Double, 0), 69}, {w.fanAt(d.Double, 1), 133}} {
			dev, v, s := taken(t, w, 1, 0, 1)
			c := begun(t, s)
			for range 8 {
				stepped(t, c)
			}
			_, e := v.Read(0)
			answers(t, api.OK, e)
			answers(t, api.OK, dev.Fail(x.block, 1))
			if size >= x.from {
				refuses(t, c, api.ErrIO)
			}
			if stepped(t, c).pass != 2 {
				t.Fatal(size, k)
			}
		}
	}
}

// TestP19Counts: dots count as links, and lead nowhere; a name of what was met
// leads nowhere again, and counts.
func TestP19Counts(t *testing.T) {
	w := plain()
	w.add(5, api.ModeDir)
	w.add(6, api.ModeDir)
	w.page(6, 0, entry(3, "a"))
	for ino := 2; ino < 7; ino++ {
		w.links(ino, 9)
	}
	w.page(4, 0, entry(6, "."), entry(5, ".."), entry(2, "top"), entry(3, "a"), entry(4, "d"), entry(3, "b"))
	l := tells(t, w, nil, []int{5, 6}, lower(2, 3), lower(3, 3), lower(4, 2))
	if got := passes(t, l); got[2] != 2 {
		t.Fatal(got)
	}
}

// TestP19Links: nothing is asked of one that says as many links as it has, or
// fewer.
func TestP19Links(t *testing.T) {
	for says := range 6 {
		w := plain()
		w.page(2, 1, entry(3, "b"), entry(3, "c"))
		w.links(3, says)
		var want []api.Request
		if says > 3 {
			want = []api.Request{lower(3, 3)}
		}
		if got := asked(run(t, ofWorld(t, w))); !slices.Equal(got, want) {
			t.Fatal(says, got)
		}
	}
	w := plain()
	w.links(3, api.MaxLinks)
	w.links(4, api.MaxLinks)
	w.links(2, api.MaxLinks)
	if got := asked(run(t, ofWorld(t, w))); !slices.Equal(got, []api.Request{lower(2, 3), lower(3, 1), lower(4, 2)}) {
		t.Fatal(got)
	}
}

// TestP19UnmetLinks: nothing is asked of the links of one that was not met, but
// that it be freed, once.
func TestP19UnmetLinks(t *testing.T) {
	w := plain()
	w.add(5, api.ModeFile)
	w.links(5, 9)
	if got := asked(run(t, ofWorld(t, w))); !slices.Equal(got, []api.Request{{Kind: api.FreeInode, N: 5, Gen: 1}}) {
		t.Fatal(got)
	}
}

// TestP19Great: the greatest geometry, with a directory that has all blocks
// that one can have, again and again the same ones.
func TestP19Great(t *testing.T) {
	w := newWorld(api.Geom{Groups: 8, Blocks: 256, Inodes: 64})
	fan, e := layout.EncodeFan(slices.Repeat([]int{19}, 64)) // 18 is the root's block
	answers(t, api.OK, e)
	copy(w.image[20], fan)
	fan, e = layout.EncodeFan(slices.Repeat([]int{20}, 64))
	answers(t, api.OK, e)
	copy(w.image[21], fan)
	for b := 19; b < 23; b++ {
		w.block(b, true)
	}
	w.page(2, 0, entry(511, "z"))
	copy(w.image[19], w.image[18])
	w.edit(2, func(d *api.Dinode) { d.Single, d.Double, d.Size, d.Links = 20, 21, api.MaxFile, 1000 })
	w.add(511, api.ModeFile)
	w.links(511, 1000)
	l := tells(t, w, []int{22}, nil, lower(2, 0)) // 511 has more links than it says
	if len(l) != 512+1+510+8 {
		t.Fatal(len(l))
	}
	w.edit(2, func(d *api.Dinode) { d.Size = (1 + 3 + 64) * 128 })
	tells(t, w, []int{22}, nil, lower(2, 0), lower(511, 65))
}
