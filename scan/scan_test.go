package scan

import (
	"bytes"
	"reflect"
	"slices"
	"strconv"
	"testing"

	"bollard/api"
	"bollard/disk"
	"bollard/inode"
	"bollard/mkfs"
	"bollard/volume"
)

// everyGeom is geometries from the least to the greatest.
func everyGeom(visit func(api.Geom)) {
	for _, groups := range []int{1, 2, 7, 8} {
		for _, inodes := range []int{4, 8, 12, 36, 60, 64} {
			least := max(8, 3+inodes/4)
			for _, blocks := range []int{least, least + 1, 77, 255, 256} {
				visit(api.Geom{Groups: groups, Blocks: blocks, Inodes: inodes})
			}
		}
	}
}

func isClean(f api.Found) bool {
	return len(f.Blocks)+len(f.Inodes)+len(f.Links) == 0
}

// TestP18_4NewVolume: accepted, without leaks; the root alone is reached.
func TestP18_4NewVolume(t *testing.T) {
	everyGeom(func(g api.Geom) {
		image, _ := mkfs.Make(g)
		answers(t, api.OK, Accept(image))
		if f, e := Leaks(image); e != api.OK || !isClean(f) {
			t.Fatal(g, f, e)
		}
		if l, e := Reach(image); e != api.OK || !slices.Equal(l, []int{2}) {
			t.Fatal(g, l, e)
		}
		if l, e := Links(image); e != api.OK || !slices.Equal(l, []api.Link{{Ino: 2, True: 2, Says: 2}}) {
			t.Fatal(g, l, e)
		}
		if l, e := Claims(image); e != api.OK || !slices.Equal(l, []api.Claim{{Block: 2 + g.Inodes/4, Ino: 2}}) {
			t.Fatal(g, l, e)
		}
	})
}

func TestP18_1Town(t *testing.T) {
	w := town()
	answers(t, api.OK, Accept(w.image))
	if g, e := Geom(w.image); e != api.OK || g != w.g {
		t.Fatal(g, e)
	}
}

// TestP18_1Geom: it hangs on the blocks' lengths, block 0 and how many blocks
// there are alone.
func TestP18_1Geom(t *testing.T) {
	everyGeom(func(g api.Geom) {
		image, _ := mkfs.Make(g)
		for b := 1; b < len(image); b++ {
			image[b] = bytes.Repeat([]byte{0xff}, api.Size)
		}
		if told, e := Geom(image); e != api.OK || told != g {
			t.Fatal(told, e)
		}
	})
}

// TestP18_1GeomRefused: the three errors of a geometry, in their order; all
// other calls have them, too.
func TestP18_1GeomRefused(t *testing.T) {
	short := func(l [][]byte) [][]byte { l[9] = l[9][:127]; return l }
	magic := func(l [][]byte) [][]byte { l[0][0]++; return l }
	sum := func(l [][]byte) [][]byte { l[0][126]++; return l }
	less := func(l [][]byte) [][]byte { return l[:len(l)-1] }
	more := func(l [][]byte) [][]byte { return append(l, make([]byte, 128)) }
	type change func([][]byte) [][]byte
	for i, c := range []struct {
		want    api.Errno
		changes []change
	}{
		{api.ErrForm, []change{short}},
		{api.ErrForm, []change{func(l [][]byte) [][]byte { l[9] = append(l[9], 0); return l }}},
		{api.ErrForm, []change{func(l [][]byte) [][]byte { l[9] = nil; return l }}},
		{api.ErrForm, []change{func(l [][]byte) [][]byte { l[0] = l[0][:127]; return l }}},
		{api.ErrForm, []change{func(l [][]byte) [][]byte { return append(l, nil) }}},
		{api.ErrForm, []change{magic, short}},
		{api.ErrForm, []change{sum, short}},
		{api.ErrForm, []change{less, short}},
		{api.ErrMagic, []change{magic}},
		{api.ErrMagic, []change{magic, sum}},
		{api.ErrMagic, []change{magic, more}},
		{api.ErrSum, []change{sum}},
		{api.ErrSum, []change{sum, less}},
		{api.ErrSum, []change{sum, more}},
		{api.ErrGeom, []change{less}},
		{api.ErrGeom, []change{more}},
		{api.ErrGeom, []change{func(l [][]byte) [][]byte { return l[:1] }}},
		{api.ErrGeom, []change{func(l [][]byte) [][]byte { return slices.Concat(l, l, l, l, l, l, l, l, l) }}},
		{api.ErrForm, []change{func(l [][]byte) [][]byte { return nil }}},
		{api.ErrForm, []change{func(l [][]byte) [][]byte { return [][]byte{} }}},
		{api.ErrForm, []change{func(l [][]byte) [][]byte { return [][]byte{nil} }}},
		{api.ErrMagic, []change{func(l [][]byte) [][]byte { return [][]byte{make([]byte, 128)} }}},
	} {
		t.Run(strconv.Itoa(i), func(t *testing.T) {
			image := town().image
			for _, change := range c.changes {
				image = change(image)
			}
			g, e := Geom(image)
			if e != c.want || g != (api.Geom{}) {
				t.Fatalf("%+v, %v, want %v", g, e, c.want)
			}
			refused(t, c.want, image)
		})
	}
}

// TestP18_2Claims: what inode.Span tells of the same bytes, inode by inode.
func TestP18_2Claims(t *testing.T) {
	w := town()
	d, _ := disk.Of(w.image)
	v, _ := volume.Open(d, 64)
	var want []api.Claim
	for ino := range 32 {
		blocks, e := inode.Span(v, w.g, w.get(ino))
		answers(t, api.OK, e)
		for _, b := range blocks {
			want = append(want, api.Claim{Block: b, Ino: ino})
		}
	}
	l, e := Claims(w.image)
	if e != api.OK || !slices.Equal(l, want) || len(l) < 40 {
		t.Fatal(l, e, want)
	}
}

// TestP18_2ClaimsOrder: an indirect block stands ahead of what stands in it,
// also where the addresses fall.
func TestP18_2ClaimsOrder(t *testing.T) {
	w := newWorld(api.Geom{Groups: 1, Blocks: 32, Inodes: 8})
	w.add(3, api.ModeFile)
	for b := 20; b < 32; b++ {
		w.block(b, true)
	}
	w.put(3, api.Dinode{Mode: api.ModeFile, Direct: [4]int{31, 0, 29, 30}, Single: 28, Double: 20})
	w.fan(28, 63, 26)
	w.fan(28, 0, 27)
	w.fan(20, 0, 25)
	w.fan(25, 1, 22)
	w.fan(25, 0, 24)
	w.fan(20, 63, 21)
	w.fan(21, 63, 23)
	var got []int
	l, e := Claims(w.image)
	for _, c := range l[1:] {
		got = append(got, c.Block)
		if c.Ino != 3 {
			t.Fatal(l)
		}
	}
	if want := []int{31, 29, 30, 28, 27, 26, 20, 25, 24, 22, 21, 23}; e != api.OK || !slices.Equal(got, want) {
		t.Fatal(got, e)
	}
}

func TestP18_2Reach(t *testing.T) {
	l, e := Reach(town().image)
	if want := []int{2, 3, 4, 5, 6, 7, 20, 21, 22, 23, 24}; e != api.OK || !slices.Equal(l, want) {
		t.Fatal(l, e)
	}
}

func link(ino, isTrue, says int) api.Link {
	return api.Link{Ino: ino, True: isTrue, Says: says}
}

func TestP18_2Links(t *testing.T) {
	w := town()
	w.links(20, 1000)
	l, e := Links(w.image)
	want := []api.Link{link(2, 4, 4), link(3, 2, 2), link(4, 3, 3), link(5, 2, 2), link(6, 1, 1), link(7, 2, 2),
		link(20, 1, 1000), link(21, 1, 1), link(22, 1, 1), link(23, 1, 1), link(24, 1, 1)}
	if e != api.OK || !slices.Equal(l, want) {
		t.Fatal(l, e)
	}
}

func TestP18_3Leaks(t *testing.T) {
	w := town()
	f, e := Leaks(w.image)
	if want := []int{8, 9, 10, 11, 12, 13, 14, 15, 16, 17, 18}; e != api.OK || !slices.Equal(f.Inodes, want) || len(f.Blocks) != 0 || len(f.Links) != 0 {
		t.Fatal(f, e)
	}
	for _, b := range []int{255, 126, 134, 127} { // the last of each group, the first free one of the second, and one more
		w.block(b, true)
	}
	w.links(2, 5)
	w.links(3, 1000)
	w.links(24, 2)
	w.links(16, 1000) // it is not reached
	f, e = Leaks(w.image)
	if want := []api.Link{link(2, 4, 5), link(3, 2, 1000), link(24, 1, 2)}; e != api.OK || !slices.Equal(f.Blocks, []int{126, 127, 134, 255}) || !slices.Equal(f.Links, want) {
		t.Fatal(f, e)
	}
}

// TestP18_3LeaksOfInodes: of the inodes 0 to 2 none leaks; the last one does.
func TestP18_3LeaksOfInodes(t *testing.T) {
	w := newWorld(api.Geom{Groups: 2, Blocks: 16, Inodes: 8})
	for ino := range 3 {
		w.inode(ino, true)
	}
	w.inode(3, true)
	w.inode(15, true)
	if f, e := Leaks(w.image); e != api.OK || !slices.Equal(f.Inodes, []int{3, 15}) {
		t.Fatal(f, e)
	}
	w.inode(0, false)
	w.inode(1, false)
	if f, e := Leaks(w.image); e != api.OK || !slices.Equal(f.Inodes, []int{3, 15}) {
		t.Fatal("the inodes 0 and 1 are never used, whatever their bits are:", f, e)
	}
}

func TestP18_3Example(t *testing.T) {
	w := newWorld(api.Geom{Groups: 1, Blocks: 16, Inodes: 8})
	w.block(9, true)
	if f, e := Leaks(w.image); e != api.OK || !slices.Equal(f.Blocks, []int{9}) || len(f.Inodes)+len(f.Links) != 0 {
		t.Fatal(f, e)
	}
	w.block(9, false)
	w.block(4, false)
	refused(t, api.ErrUnset, w.image)
}

// all is what all calls tell of an image.
type all struct {
	accept api.Errno
	geom   api.Geom
	claims []api.Claim
	reach  []int
	links  []api.Link
	leaks  api.Found
}

func tell(t *testing.T, image [][]byte) all {
	t.Helper()
	var out all
	var e [5]api.Errno
	out.accept = Accept(image)
	out.geom, e[0] = Geom(image)
	out.claims, e[1] = Claims(image)
	out.reach, e[2] = Reach(image)
	out.links, e[3] = Links(image)
	out.leaks, e[4] = Leaks(image)
	for _, e := range e[1:] {
		answers(t, out.accept, e)
	}
	if e[0] != api.OK {
		answers(t, out.accept, e[0])
	}
	return out
}

// TestP18_5Beyond: bytes of blocks that nobody has, of the other groups'
// superblocks, of files, of what a directory has behind its Size; bits past a
// group's end and of blocks that are not data.
func TestP18_5Beyond(t *testing.T) {
	w := town()
	w.grow(4, 2)
	want := tell(t, w.image)
	answers(t, api.OK, want.accept)
	for b := range w.image {
		bit := b % w.g.Blocks
		if free := bit >= w.data() && !isSet(w.image[b-bit+1], 12, bit); free || b == w.g.Blocks {
			copy(w.image[b], bytes.Repeat([]byte{byte(0x81 + b)}, 128))
		}
	}
	for _, b := range []int{w.addr(3, 0), w.addr(6, 4163), w.addr(4, 2)} {
		copy(w.image[b], bytes.Repeat([]byte{0xff}, 128))
	}
	for group := range 2 {
		header := w.image[group*128+1]
		for bit := 128; bit < 256; bit++ {
			turn(header, 12, bit, true)
		}
		for bit := 16; bit < 64; bit++ {
			turn(header, 4, bit, true)
		}
		for bit := range w.data() {
			turn(header, 12, bit, false)
		}
	}
	if got := tell(t, w.image); !reflect.DeepEqual(got, want) {
		t.Fatal(got, want)
	}
}
