package adjust

import (
	"bytes"
	"math"
	"reflect"
	"slices"
	"testing"

	"bollard/api"
	"bollard/disk"
	"bollard/scan"
	"bollard/volume"
)

// The yard: a small volume that is accepted, in which all kinds of things leak.
// Its blocks of data begin at 4 and at 36; 31 and 61 are allocated, and nobody
// has them.
//
//	/           2; it says a link too many
//	/a          3, a file of two blocks; two links too many
//	/d          4, a directory that is empty
//	/f          6, a file of one block
//	            7, a file that no name leads to, with blocks in both groups, one by Single
//	            9, a directory that no name leads to, in which 12 is named
//	            10, allocated, but free
//	            11, a file with a block that is not allocated, and no name leads to it
//	            12, a file that has no name from the root on, and says no links
//	            5, 8, 13, 14, 15, free
var village = api.Geom{Groups: 2, Blocks: 32, Inodes: 8}

func yard() *world {
	w := newWorld(village)
	w.page(2, 0, entry(2, "."), entry(2, ".."), entry(3, "a"), entry(4, "d"), entry(6, "f"))
	w.links(2, 4)
	for _, ino := range []int{3, 6, 7, 11, 12} {
		w.add(ino, api.ModeFile)
	}
	w.grow(3, 0)
	w.grow(3, 3)
	w.links(3, 3)
	w.add(4, api.ModeDir)
	w.page(4, 0, entry(4, "."), entry(2, ".."))
	w.links(4, 2)
	w.grow(6, 0)
	w.edit(7, func(d *api.Dinode) { d.Direct[0] = 60 })
	w.block(60, true)
	w.grow(7, 1)
	w.grow(7, 4)
	w.add(9, api.ModeDir)
	w.page(9, 0, entry(9, "."), entry(2, ".."), entry(12, "x"))
	w.inode(10, true)
	w.grow(11, 0)
	w.inode(11, false)
	w.links(12, 0)
	w.block(31, true)
	w.block(61, true)
	return w
}

func TestYard(t *testing.T) {
	w := yard()
	answers(t, api.OK, scan.Accept(w.image))
	if l := w.free(); slices.Contains(l, 31) || slices.Contains(l, 61) || !slices.Contains(l, 30) || !slices.Contains(l, 62) {
		t.Fatal(l)
	}
}

func answers(t *testing.T, want, got api.Errno) {
	t.Helper()
	if got != want {
		t.Fatalf("%v, want %v", got, want)
	}
}

func opened(t *testing.T, image [][]byte, buffers int) (*disk.Disk, *volume.Volume) {
	t.Helper()
	d, e := disk.Of(image)
	answers(t, api.OK, e)
	v, e := volume.Open(d, buffers)
	answers(t, api.OK, e)
	return d, v
}

// state is all that can be told of a volume, but for what its blocks hold.
type state struct {
	last, kept        int
	broken            bool
	dirty, ready, way []int
	pending           [][]int
	disk              [][]byte
	queue             []api.Sent
}

func stateOf(d *disk.Disk, v *volume.Volume) state {
	s := state{last: v.Last(), kept: v.Kept(), broken: v.Broken(), dirty: v.Dirty(), ready: v.Ready(), way: v.Way(), disk: d.Image(), queue: d.Queue()}
	for b := range v.Blocks() {
		s.pending = append(s.pending, v.Pending(b))
	}
	return s
}

// now is all blocks of a volume, read by the test itself.
func now(t *testing.T, v *volume.Volume) [][]byte {
	t.Helper()
	var out [][]byte
	for b := range v.Blocks() {
		bytes, e := v.Read(b)
		answers(t, api.OK, e)
		out = append(out, bytes)
	}
	return out
}

// refuses fails unless May and Do answer an error, and nothing has changed.
func refuses(t *testing.T, want api.Errno, d *disk.Disk, v *volume.Volume, g api.Geom, open []int, r api.Request, gen int) {
	t.Helper()
	was := stateOf(d, v)
	may := May(v, g, open, r, gen)
	l, e := Do(v, g, open, r, gen)
	if may != want || e != want || len(l) != 0 {
		t.Fatalf("%v, open %v: May %v, Do %v, %v; want %v", r, open, may, l, e, want)
	}
	if is := stateOf(d, v); !reflect.DeepEqual(is, was) {
		t.Fatalf("%v is refused, and something has changed", r)
	}
}

func wild() []int {
	return []int{math.MinInt, math.MinInt32, -512, -2, -1, 512, 2047, 2048, 1 << 16, 1 << 32, math.MaxInt}
}

func TestP20_1Image(t *testing.T) {
	for _, buffers := range []int{1, 7, api.MaxCache} {
		w := yard()
		d, v := opened(t, w.image, buffers)
		image, e := Image(v)
		if e != api.OK || !reflect.DeepEqual(image, w.image) {
			t.Fatal("other blocks", e)
		}
		a, e := v.Change(50, 3, []byte{1, 2}, nil)
		answers(t, api.OK, e)
		_, e = v.Change(63, 127, []byte{3}, []int{a})
		answers(t, api.OK, e)
		answers(t, api.OK, v.Write(50))
		copy(w.image[50][3:], []byte{1, 2})
		w.image[63][127] = 3
		was := stateOf(d, v)
		for range 2 {
			image, e = Image(v)
			if e != api.OK || !reflect.DeepEqual(image, w.image) {
				t.Fatal("other blocks", e)
			}
			for _, b := range image { // an answer is nobody else's
				b = b[:cap(b)]
				copy(b, bytes.Repeat([]byte{0xee}, len(b)))
			}
		}
		if !reflect.DeepEqual(now(t, v), w.image) || !reflect.DeepEqual(stateOf(d, v), was) {
			t.Fatal("Image has changed the volume")
		}
	}
}

// TestP20_1Any: it has all blocks of a volume, however many, whatever they
// hold.
func TestP20_1Any(t *testing.T) {
	for _, many := range []int{1, 2, 31, api.MaxDisk} {
		var blocks [][]byte
		for b := range many {
			blocks = append(blocks, bytes.Repeat([]byte{byte(b), byte(b >> 8)}, 64))
		}
		_, v := opened(t, blocks, 3)
		if image, e := Image(v); e != api.OK || !reflect.DeepEqual(image, blocks) {
			t.Fatal(many, e)
		}
	}
}

func TestP20_1ImageRefuses(t *testing.T) {
	for _, v := range []*volume.Volume{nil, {}} {
		if image, e := Image(v); len(image) != 0 || e != api.ErrNil {
			t.Fatal(image, e)
		}
	}
	w := yard()
	for b := range w.image {
		d, v := opened(t, w.image, 5)
		answers(t, api.OK, d.Fail(b, 1))
		answers(t, api.OK, d.Fail(63, 2))
		failures := 2 // the first failure ends it: that of 63 is told behind this one
		if b < 63 {
			failures++
		}
		for range failures {
			if image, e := Image(v); len(image) != 0 || e != api.ErrIO {
				t.Fatal(b, e)
			}
		}
		if image, e := Image(v); !reflect.DeepEqual(image, w.image) || e != api.OK {
			t.Fatal(b, e)
		}
	}
}

// one is a request, of some snapshot, and what is answered of the yard.
type one struct {
	kind, n int
	open    []int
	want    api.Errno
}

func requests() []one {
	out := []one{
		{api.FreeBlock, 4, nil, api.ErrHeld}, {api.FreeBlock, 5, nil, api.ErrHeld}, {api.FreeBlock, 60, nil, api.ErrHeld}, // the root's, /a's, 7's
		{api.FreeBlock, 30, nil, api.ErrFree}, {api.FreeBlock, 36, nil, api.ErrFree}, {api.FreeBlock, 63, nil, api.ErrFree},
		{api.FreeBlock, 31, nil, api.OK}, {api.FreeBlock, 61, nil, api.OK}, {api.FreeBlock, 31, []int{31}, api.OK},

		{api.FreeInode, 3, nil, api.ErrHeld}, {api.FreeInode, 4, nil, api.ErrHeld}, {api.FreeInode, 6, []int{6}, api.ErrHeld},
		{api.FreeInode, 5, nil, api.ErrFree}, {api.FreeInode, 8, nil, api.ErrFree}, {api.FreeInode, 15, nil, api.ErrFree},
		{api.FreeInode, 5, []int{5}, api.ErrFree}, {api.FreeInode, 13, []int{13}, api.ErrFree}, // ahead of ErrHeld
		{api.FreeInode, 7, nil, api.OK}, {api.FreeInode, 9, []int{}, api.OK}, {api.FreeInode, 10, nil, api.OK}, {api.FreeInode, 11, nil, api.OK}, {api.FreeInode, 12, nil, api.OK},
		{api.FreeInode, 7, []int{7}, api.ErrHeld}, {api.FreeInode, 9, []int{3, 9}, api.ErrHeld}, {api.FreeInode, 10, []int{10}, api.ErrHeld}, {api.FreeInode, 11, []int{11, 11}, api.ErrHeld}, {api.FreeInode, 12, append(wild(), 12), api.ErrHeld},
		{api.FreeInode, 7, append(wild(), 0, 1, 2, 3, 4, 5, 6, 8, 9), api.OK},

		{api.LowerLinks, 2, nil, api.OK}, {api.LowerLinks, 3, nil, api.OK}, {api.LowerLinks, 3, []int{3}, api.OK}, {api.LowerLinks, 2, []int{2}, api.OK},
		{api.LowerLinks, 4, nil, api.ErrArg}, {api.LowerLinks, 6, nil, api.ErrArg}, {api.LowerLinks, 6, []int{6}, api.ErrArg},
		{api.LowerLinks, 5, nil, api.ErrFree}, {api.LowerLinks, 10, nil, api.ErrFree}, {api.LowerLinks, 10, []int{10}, api.ErrFree}, {api.LowerLinks, 15, nil, api.ErrFree},
		{api.LowerLinks, 7, nil, api.OK}, {api.LowerLinks, 7, []int{7}, api.OK}, {api.LowerLinks, 9, nil, api.OK}, {api.LowerLinks, 11, nil, api.OK},
		{api.LowerLinks, 12, nil, api.ErrArg}, {api.LowerLinks, 12, []int{12}, api.ErrArg},
	}
	for _, n := range wild() {
		for kind := -1; kind < 5; kind++ {
			out = append(out, one{kind, n, nil, api.ErrArg}, one{kind, n, []int{n}, api.ErrArg})
		}
		for _, kind := range []int{7, 31, 9} { // no kinds, though the number is right
			out = append(out, one{n, kind, nil, api.ErrArg})
		}
	}
	for _, n := range []int{0, 1, 2, 3, 32, 33, 34, 35, 64, 65} {
		out = append(out, one{api.FreeBlock, n, nil, api.ErrArg})
	}
	for _, n := range []int{0, 1, 2, 16, 17, 31, 61} {
		out = append(out, one{api.FreeInode, n, nil, api.ErrArg})
	}
	for _, n := range []int{0, 1, 16, 17, 31, 61} {
		out = append(out, one{api.LowerLinks, n, nil, api.ErrArg})
	}
	for _, kind := range []int{0, 4, 5} {
		for n := range 66 {
			out = append(out, one{kind, n, nil, api.ErrArg})
		}
	}
	return out
}

func TestP20_2May(t *testing.T) {
	w := yard()
	for i, x := range requests() {
		gen := []int{1, 2, 1 << 40, 0, -1, math.MaxInt}[i%6] // whether it can be a snapshot's plays no part
		for _, to := range []int{0, 1, 2, 9, -1, math.MaxInt} {
			d, v := opened(t, w.image, api.MaxCache)
			r := api.Request{Kind: x.kind, N: x.n, To: to, Gen: gen}
			if x.want != api.OK {
				refuses(t, x.want, d, v, village, x.open, r, gen)
				continue
			}
			was := stateOf(d, v)
			for range 2 {
				answers(t, api.OK, May(v, village, x.open, r, gen))
			}
			if !reflect.DeepEqual(stateOf(d, v), was) {
				t.Fatal("May has changed the volume")
			}
		}
	}
}

// TestP20_2Handed: what is handed in stays, the room behind its end included.
func TestP20_2Handed(t *testing.T) {
	w := yard()
	for _, x := range requests()[:40] {
		_, v := opened(t, w.image, api.MaxCache)
		room := []int{9, 3, 12, 3, -7, 77}
		r := api.Request{Kind: x.kind, N: x.n, Gen: 1}
		May(v, village, room[:4], r, 1)
		l, e := Do(v, village, room[:4], r, 1)
		if !slices.Equal(room, []int{9, 3, 12, 3, -7, 77}) {
			t.Fatal(room)
		}
		if e == api.OK { // an answer is nobody else's
			was := now(t, v)
			clear(l[:cap(l)])
			if !reflect.DeepEqual(now(t, v), was) {
				t.Fatal("an answer is shared")
			}
		}
	}
}

func TestP20_2NoVolume(t *testing.T) {
	for _, v := range []*volume.Volume{nil, {}} {
		for _, g := range []api.Geom{village, {}} {
			for _, r := range []api.Request{{Kind: api.FreeBlock, N: 31, Gen: 1}, {}} {
				may := May(v, g, nil, r, 2)
				if l, e := Do(v, g, nil, r, 2); may != api.ErrNil || e != api.ErrNil || len(l) != 0 {
					t.Fatal(may, l, e)
				}
			}
		}
	}
}

func TestP20_2Geometry(t *testing.T) {
	d, v := opened(t, yard().image, 9)
	for _, g := range []api.Geom{
		{}, {Groups: 2, Blocks: 32}, {Groups: -2, Blocks: 32, Inodes: 8}, {Groups: 2, Blocks: 32, Inodes: 9}, {Groups: 9, Blocks: 8, Inodes: 4}, {Groups: 1, Blocks: 8, Inodes: 24},
		{Groups: math.MaxInt, Blocks: math.MaxInt, Inodes: math.MinInt}, {Groups: 3, Blocks: 32, Inodes: 8}, {Groups: 2, Blocks: 33, Inodes: 8}, {Groups: 8, Blocks: 256, Inodes: 64},
		{Groups: 1, Blocks: 32, Inodes: 8}, {Groups: 2, Blocks: 32, Inodes: 4}, {Groups: 4, Blocks: 16, Inodes: 8}, {Groups: 1, Blocks: 64, Inodes: 8}, {Groups: 2, Blocks: 31, Inodes: 8}, // that can be, and are others
	} {
		for _, r := range []api.Request{{Kind: api.FreeBlock, N: 31, Gen: 1}, {Gen: 1}} {
			refuses(t, api.ErrGeom, d, v, g, nil, r, 1)
		}
	}
}

func TestP20_2Stale(t *testing.T) {
	d, v := opened(t, yard().image, 9)
	for _, gen := range append(wild(), 0, 1, 2) {
		for _, other := range append(wild(), 0, 1, 2) {
			r := api.Request{Kind: api.FreeBlock, N: 31, Gen: gen}
			if gen != other {
				refuses(t, api.ErrStale, d, v, village, nil, r, other)
			} else {
				answers(t, api.OK, May(v, village, nil, r, other))
			}
		}
	}
}

// TestP20_2Fails: a block that can't be read, whichever it is: nothing is asked
// of a volume that is not known as a whole.
func TestP20_2Fails(t *testing.T) {
	w := yard()
	for b := range w.image {
		d, v := opened(t, w.image, 9)
		r := api.Request{Kind: api.FreeBlock, N: 31, Gen: 1}
		answers(t, api.OK, d.Fail(b, 2)) // one of May, one of Do
		refuses(t, api.ErrIO, d, v, village, nil, r, 1)
		if l, e := Do(v, village, nil, r, 1); e != api.OK || !slices.Equal(l, []int{1}) {
			t.Fatal(l, e)
		}
	}
}

// TestP20_2NotAccepted: whatever is wrong, however far from what is asked, is
// told as scan tells it; also where a patch has done it.
func TestP20_2NotAccepted(t *testing.T) {
	for _, x := range []struct {
		block, at int
		byte      byte
		want      api.Errno
	}{
		{0, 0, 1, api.ErrMagic}, {0, 4, 1, api.ErrSum}, {33, 0, 1, api.ErrMagic}, {33, 2, 0, api.ErrForm}, {1, 12, 0x0f, api.ErrUnset},
		{2, 64, 9, api.ErrSum}, {4, 0, 3, api.ErrShape}, {4, 32, 5, api.ErrOut}, {1, 4, 7, api.ErrUnset}, {4, 64 + 3, 0, api.ErrShape},
	} {
		w := yard()
		d, v := opened(t, w.image, 9)
		_, e := v.Change(x.block, x.at, []byte{x.byte}, nil)
		answers(t, api.OK, e)
		w.image[x.block][x.at] = x.byte
		answers(t, x.want, scan.Accept(w.image))
		for _, r := range []api.Request{{Kind: api.FreeBlock, N: 31, Gen: 1}, {Kind: api.FreeInode, N: 10, Gen: 1}, {Kind: api.LowerLinks, N: 2, Gen: 1}, {Gen: 1}} {
			refuses(t, x.want, d, v, village, nil, r, 1)
		}
		d, v = opened(t, w.image, 9)
		refuses(t, x.want, d, v, village, nil, api.Request{Kind: api.FreeBlock, N: 31, Gen: 1}, 1)
	}
}

// TestP20_2Order: of several errors the first one is told.
func TestP20_2Order(t *testing.T) {
	order := []api.Errno{api.ErrGeom, api.ErrStale, api.ErrIO, api.ErrUnset, api.ErrGeom, api.ErrArg, api.ErrHeld}
	for set := 1; set < 1<<len(order); set++ {
		has := func(i int) bool { return set>>i&1 == 1 }
		w := yard()
		g, gen, r := village, 1, api.Request{Kind: api.FreeInode, N: 7, Gen: 1}
		var open []int
		if has(6) {
			open = []int{7}
		}
		if has(5) {
			r.Kind = 9
		}
		if has(4) {
			g = api.Geom{Groups: 1, Blocks: 32, Inodes: 8}
		}
		if has(3) {
			w.block(60, false)
		}
		d, v := opened(t, w.image, 9)
		if has(2) {
			answers(t, api.OK, d.Fail(63, 1000))
		}
		if has(1) {
			gen = 2
		}
		if has(0) {
			g = api.Geom{Groups: 3, Blocks: 32, Inodes: 8}
		}
		first := 0
		for !has(first) {
			first++
		}
		refuses(t, order[first], d, v, g, open, r, gen)
	}
}
