package fore

import (
	"bytes"
	"reflect"
	"slices"
	"testing"

	"bollard/api"
	"bollard/disk"
	"bollard/geom"
	"bollard/layout"
	"bollard/mkfs"
	"bollard/scan"
	"bollard/vfs"
)

var wide = api.Geom{Groups: 2, Blocks: 32, Inodes: 8}

func answers(t *testing.T, want, e api.Errno) {
	t.Helper()
	if e != want {
		t.Fatalf("%v, want %v", e, want)
	}
}

// town is an accepted image without leaks: /d has /d/a, a file of 900 bytes,
// and a second name of it; the inodes 3 to 4 and some of group 1 are used.
func town(t *testing.T) [][]byte {
	t.Helper()
	image, e := mkfs.Make(wide)
	answers(t, api.OK, e)
	d, e := disk.Of(image)
	answers(t, api.OK, e)
	f, e := vfs.Mount(d)
	answers(t, api.OK, e)
	for _, c := range []api.Call{
		{Kind: api.CallMkdir, Path: "/d"}, {Kind: api.CallMkdir, Path: "/e"}, {Kind: api.CallCreate, Path: "/d/a"}, {Kind: api.CallCreate, Path: "/b"},
		{Kind: api.CallWrite, Bytes: bytes.Repeat([]byte("bollard"), 130)}, {Kind: api.CallLink, Path: "/d/a", Other: "/l"},
		{Kind: api.CallWrite, FD: 1, Bytes: []byte("hey")}, {Kind: api.CallSync},
	} {
		_, e := f.Do(c)
		answers(t, api.OK, e)
	}
	return d.Image()
}

func copied(image [][]byte) [][]byte {
	var out [][]byte
	for _, b := range image {
		out = append(out, slices.Clone(b))
	}
	return out
}

func sameImage(a, b [][]byte) bool {
	return slices.EqualFunc(a, b, bytes.Equal)
}

// lab changes an image by hand.
type lab struct {
	t     *testing.T
	g     api.Geom
	image [][]byte
}

func (l lab) header(group int, change func(h *api.Group)) {
	l.t.Helper()
	b, _ := geom.Header(l.g, group)
	h, e := layout.DecodeGroup(l.image[b])
	answers(l.t, api.OK, e)
	change(&h)
	bytes, e := layout.EncodeGroup(h)
	answers(l.t, api.OK, e)
	copy(l.image[b], bytes)
}

func (l lab) bit(group, bit int, inodes, on bool) {
	l.t.Helper()
	l.header(group, func(h *api.Group) {
		row := h.Blocks[:]
		if inodes {
			row = h.Inodes[:]
		}
		row[bit/8] &^= 1 << (bit % 8)
		if on {
			row[bit/8] |= 1 << (bit % 8)
		}
	})
}

func (l lab) block(b int, on bool) { l.bit(b/l.g.Blocks, b%l.g.Blocks, false, on) }

func (l lab) inode(ino int, on bool) { l.bit(ino/l.g.Inodes, ino%l.g.Inodes, true, on) }

func (l lab) get(ino int) api.Dinode {
	l.t.Helper()
	b, at, _ := geom.Inode(l.g, ino)
	d, e := layout.DecodeDinode(l.image[b][at : at+32])
	answers(l.t, api.OK, e)
	return d
}

func (l lab) put(ino int, d api.Dinode) {
	l.t.Helper()
	b, at, _ := geom.Inode(l.g, ino)
	bytes, e := layout.EncodeDinode(d)
	answers(l.t, api.OK, e)
	copy(l.image[b][at:at+32], bytes)
}

func (l lab) says(ino, links int) {
	l.t.Helper()
	d := l.get(ino)
	d.Links = links
	l.put(ino, d)
}

// hurt is a way in which an image leaks.
type hurt struct {
	name string
	do   func(l lab)
	left func(l lab) // what repairing leaves otherwise than it was
}

// hurts: the town uses, in group 0, inodes 2 to 4 or so, and few blocks; those
// that are used here are free there.
func hurts() []hurt {
	nothing := func(lab) {}
	return []hurt{
		{"a block", func(l lab) { l.block(30, true) }, nothing},
		{"blocks of both groups, the first and the last", func(l lab) { l.block(31, true); l.block(63, true) }, nothing},
		{"an inode's bit", func(l lab) { l.inode(7, true) }, nothing},
		{"an inode's bit in another group", func(l lab) { l.inode(15, true) }, nothing},
		{"an inode, its bit not set", func(l lab) { l.put(6, api.Dinode{Mode: api.ModeFile, Links: 5, Size: 99}) }, nothing},
		{"an inode with blocks", func(l lab) {
			l.inode(14, true)
			fan := make([]int, api.Fan)
			fan[3], fan[63] = 29, 60
			bytes, e := layout.EncodeFan(fan)
			answers(l.t, api.OK, e)
			copy(l.image[28], bytes)
			for _, b := range []int{27, 28, 29, 60} {
				l.block(b, true)
			}
			l.put(14, api.Dinode{Mode: api.ModeFile, Size: 128, Direct: [4]int{0, 27}, Single: 28})
		}, func(l lab) {
			fan := make([]int, api.Fan)
			fan[3], fan[63] = 29, 60
			bytes, _ := layout.EncodeFan(fan)
			copy(l.image[28], bytes) // blocks that are free keep their bytes
		}},
		{"a directory that nothing leads to, and what stands in it", func(l lab) {
			l.inode(13, true)
			l.inode(5, true)
			l.block(26, true)
			copy(l.image[26], []byte{13, 0, 1, '.'})
			copy(l.image[26][16:], []byte{2, 0, 2, '.', '.'})
			copy(l.image[26][32:], []byte{5, 0, 1, 'x'})
			l.put(13, api.Dinode{Mode: api.ModeDir, Links: 2, Size: 128, Direct: [4]int{26}})
			l.put(5, api.Dinode{Mode: api.ModeFile, Links: 1})
		}, func(l lab) {
			copy(l.image[26], []byte{13, 0, 1, '.'})
			copy(l.image[26][16:], []byte{2, 0, 2, '.', '.'})
			copy(l.image[26][32:], []byte{5, 0, 1, 'x'})
		}},
		{"links of the root", func(l lab) { l.says(2, api.MaxLinks) }, nothing},
		{"links of a file", func(l lab) { l.says(fileIn(l), 3) }, nothing},
	}
}

// fileIn is the file that has two names.
func fileIn(l lab) int {
	l.t.Helper()
	links, e := scan.Links(l.image)
	answers(l.t, api.OK, e)
	for _, k := range links {
		if l.get(k.Ino).Mode == api.ModeFile && k.True == 2 {
			return k.Ino
		}
	}
	l.t.Fatal(links)
	return 0
}

// TestP22_1_2_4Kinds: leaks of each kind, alone, each two of them, and all
// together: Repair leaves the town.
func TestP22_1_2_4Kinds(t *testing.T) {
	good := town(t)
	all := hurts()
	var sets [][]hurt
	sets = append(sets, nil, all)
	for i := range all {
		sets = append(sets, all[i:i+1])
		for j := range i {
			sets = append(sets, []hurt{all[i], all[j]})
		}
	}
	for _, set := range sets {
		l := lab{t: t, g: wide, image: copied(good)}
		want := lab{t: t, g: wide, image: copied(good)}
		var told []string
		for _, h := range set {
			h.do(l)
			h.left(want)
			told = append(told, h.name)
		}
		was := copied(l.image)
		f, e := Check(l.image)
		leaks, why := scan.Leaks(l.image)
		if e != api.OK || why != api.OK || !reflect.DeepEqual(f, leaks) || Clean(f) != (len(set) == 0) {
			t.Fatal(told, f, e, leaks, why)
		}
		got, e := Repair(l.image)
		if e != api.OK || !sameImage(got, want.image) {
			t.Fatal(told, e)
		}
		if !sameImage(l.image, was) {
			t.Fatal(told, "what was handed in has changed")
		}
		f, e = Check(got)
		if e != api.OK || !Clean(f) {
			t.Fatal(told, f, e)
		}
		again, e := Repair(got)
		if e != api.OK || !sameImage(again, got) {
			t.Fatal(told, e)
		}
	}
}

// TestP22_1Clean: of each of the three lists.
func TestP22_1Clean(t *testing.T) {
	for _, f := range []api.Found{{Blocks: []int{9}}, {Inodes: []int{9}}, {Links: []api.Link{{Ino: 3, True: 1, Says: 2}}}, {Blocks: []int{0}, Inodes: []int{0}, Links: make([]api.Link, 1)}} {
		if Clean(f) {
			t.Fatal(f)
		}
	}
	for _, f := range []api.Found{{}, {Blocks: []int{}, Inodes: []int{}, Links: []api.Link{}}} {
		if !Clean(f) {
			t.Fatal(f)
		}
	}
}

// TestP22_1_2Refused: images that are not accepted: scan's errors.
func TestP22_1_2Refused(t *testing.T) {
	good := town(t)
	for _, c := range []struct {
		name string
		do   func(image [][]byte) [][]byte
	}{
		{"no blocks", func([][]byte) [][]byte { return nil }},
		{"empty", func([][]byte) [][]byte { return [][]byte{} }},
		{"a block of no bytes", func(image [][]byte) [][]byte { image[9] = nil; return image }},
		{"a block of more bytes", func(image [][]byte) [][]byte { image[9] = append(image[9], 0); return image }},
		{"noughts", func(image [][]byte) [][]byte { clear(image[0]); return image }},
		{"a superblock not sealed", func(image [][]byte) [][]byte { image[0][5] ^= 1; return image }},
		{"a block less", func(image [][]byte) [][]byte { return image[:63] }},
		{"a block more", func(image [][]byte) [][]byte { return append(image, make([]byte, 128)) }},
		{"a header", func(image [][]byte) [][]byte { clear(image[33]); return image }},
		{"an inode", func(image [][]byte) [][]byte { image[2][70] ^= 1; return image }},
		{"the root's block", func(image [][]byte) [][]byte { clear(image[4]); return image }},
		{"an unset bit", func(image [][]byte) [][]byte { clear(image[1][12:44]); return image }},
		{"links", func(image [][]byte) [][]byte { lab{t: t, g: wide, image: image}.says(2, 1); return image }},
	} {
		image := c.do(copied(good))
		was := copied(image)
		want := scan.Accept(image)
		f, e := Check(image)
		got, why := Repair(image)
		if want == api.OK || e != want || why != want || len(got) != 0 || !reflect.DeepEqual(f, api.Found{}) {
			t.Fatal(c.name, want, f, e, why)
		}
		if !sameImage(image, was) {
			t.Fatal(c.name, "has changed")
		}
	}
}

// TestP22_2Memory: what Repair tells shares nothing with the image, nor one
// block with another.
func TestP22_2Memory(t *testing.T) {
	good := town(t)
	image := copied(good)
	x, e := Repair(image)
	answers(t, api.OK, e)
	apart(t, x)
	for _, b := range x {
		clear(b[:cap(b)])
	}
	if !sameImage(image, good) {
		t.Fatal("the image has changed")
	}
}

// apart fails if the room of one block is another's.
func apart(t *testing.T, image [][]byte) {
	t.Helper()
	was := copied(image)
	for i := range image {
		for j := range image[i][:cap(image[i])] {
			image[i][:cap(image[i])][j] ^= 255
		}
		for k := range image {
			if k != i && !bytes.Equal(image[k], was[k]) {
				t.Fatal("blocks share memory", i, k)
			}
		}
		copy(image[i], was[i])
	}
}

// TestP22_3Blocks: bytes that are blocks, and such as are none.
func TestP22_3Blocks(t *testing.T) {
	for _, n := range []int{0, 1, 127, 129, 255, 257, api.MaxDisk*api.Size - 1, api.MaxDisk*api.Size + 1, (api.MaxDisk + 1) * api.Size, 2 * api.MaxDisk * api.Size} {
		if image, e := Blocks(make([]byte, n)); len(image) != 0 || e != api.ErrImage {
			t.Fatal(n, len(image), e)
		}
	}
	if image, e := Blocks(nil); len(image) != 0 || e != api.ErrImage {
		t.Fatal(len(image), e)
	}
	for _, n := range []int{1, 2, 3, 64, api.MaxDisk - 1, api.MaxDisk} {
		b := make([]byte, n*api.Size+5)
		for i := range b {
			b[i] = byte(i*7 + i/128)
		}
		was := slices.Clone(b)
		image, e := Blocks(b[:n*api.Size])
		if e != api.OK || len(image) != n {
			t.Fatal(n, len(image), e)
		}
		for i := range image {
			if !bytes.Equal(image[i], b[i*128:i*128+128]) {
				t.Fatal(n, i)
			}
		}
		if got := Bytes(image); !bytes.Equal(got, b[:n*api.Size]) {
			t.Fatal(n, len(got))
		}
		if n < 99 {
			apart(t, image)
		}
		for i := range image {
			clear(image[i][:cap(image[i])])
		}
		if !bytes.Equal(b, was) {
			t.Fatal(n, "what was handed in has changed")
		}
	}
}

// TestP22_3Bytes: all blocks' bytes, of whatever length they are.
func TestP22_3Bytes(t *testing.T) {
	for _, c := range []struct {
		image [][]byte
		want  string
	}{{nil, ""}, {[][]byte{}, ""}, {[][]byte{nil, {}}, ""}, {[][]byte{[]byte("ab"), nil, []byte("c")}, "abc"}, {[][]byte{[]byte("abc")}, "abc"}} {
		was := copied(c.image)
		got := Bytes(c.image)
		if string(got) != c.want {
			t.Fatal(got, c.want)
		}
		clear(got[:cap(got)])
		if !sameImage(c.image, was) {
			t.Fatal("what was handed in has changed")
		}
	}
}

// TestP22_2Example: the chapter's.
func TestP22_2Example(t *testing.T) {
	good, e := mkfs.Make(api.Geom{Groups: 1, Blocks: 32, Inodes: 8})
	answers(t, api.OK, e)
	image := copied(good)
	image[1][13] |= 2
	f, e := Check(image)
	if e != api.OK || !slices.Equal(f.Blocks, []int{9}) || len(f.Inodes)+len(f.Links) > 0 {
		t.Fatal(f, e)
	}
	got, e := Repair(image)
	if e != api.OK || !sameImage(got, good) {
		t.Fatal(e)
	}
}
