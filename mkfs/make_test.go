package mkfs

import (
	"bytes"
	"math"
	"testing"

	"bollard/api"
)

// sumOf is chapter 1's, told over again.
func sumOf(b []byte) uint32 {
	one, two := uint32(1), uint32(0)
	for _, c := range b {
		one = (one + uint32(c)) % 65521
		two = (two + one) % 65521
	}
	return two<<16 | one
}

// seal puts the sum of the bytes ahead into the last four.
func seal(b []byte) {
	end := len(b) - 4
	sum := sumOf(b[:end])
	copy(b[end:], []byte{byte(sum), byte(sum >> 8), byte(sum >> 16), byte(sum >> 24)})
}

// superOf is a superblock, byte by byte.
func superOf(g api.Geom, mounts uint32) []byte {
	b := make([]byte, 128)
	copy(b, []byte{0x62, 0x6f, 0x6c, 0x6c, byte(g.Groups), byte(g.Blocks - 1), byte(g.Inodes), 0,
		byte(mounts), byte(mounts >> 8), byte(mounts >> 16), byte(mounts >> 24)})
	seal(b)
	return b
}

// book is a new volume, byte by byte.
func book(g api.Geom) [][]byte {
	var image [][]byte
	for range g.Groups * g.Blocks {
		image = append(image, make([]byte, 128))
	}
	data := 2 + g.Inodes/4
	for group := range g.Groups {
		image[group*g.Blocks] = superOf(g, 0)
		header := image[group*g.Blocks+1]
		copy(header, []byte{0x68, 0x64, byte(group)})
		for bit := range data {
			header[12+bit/8] |= 1 << (bit % 8)
		}
	}
	image[1][4] = 1 | 2 | 4
	image[1][12+data/8] |= 1 << (data % 8)

	root := image[2][64:96]
	copy(root, []byte{2, 0, 2, 0, 128, 0, 0, 0, byte(data)})
	seal(root)

	copy(image[data], []byte{2, 0, 1, '.'})
	copy(image[data][16:], []byte{2, 0, 2, '.', '.'})
	return image
}

// everyGeom is all geometries that can be but for some in the middle: groups
// and inodes all of them, blocks near both ends and at each third.
func everyGeom(visit func(api.Geom)) {
	for groups := 1; groups <= 8; groups++ {
		for inodes := 4; inodes <= 64; inodes += 4 {
			least := max(8, 3+inodes/4)
			for blocks := least; blocks <= 256; blocks++ {
				if blocks < least+3 || blocks > 253 || blocks%41 == 0 {
					visit(api.Geom{Groups: groups, Blocks: blocks, Inodes: inodes})
				}
			}
		}
	}
}

func equalImages(a, b [][]byte) bool {
	if len(a) != len(b) {
		return false
	}
	for i := range a {
		if !bytes.Equal(a[i], b[i]) {
			return false
		}
	}
	return true
}

// TestP17_1ByteByByte: the least and the greatest geometry are among them.
func TestP17_1ByteByByte(t *testing.T) {
	everyGeom(func(g api.Geom) {
		image, e := Make(g)
		if e != api.OK || !equalImages(image, book(g)) {
			t.Fatalf("%+v: %v, or other bytes than the book's", g, e)
		}
	})
}

func TestP17_1Example(t *testing.T) {
	image, e := Make(api.Geom{Groups: 1, Blocks: 32, Inodes: 8})
	if e != api.OK || len(image) != 32 {
		t.Fatal(len(image), e)
	}
	if !bytes.HasPrefix(image[4], []byte{2, 0, 1, '.'}) {
		t.Fatal("block 4 is not the root's:", image[4])
	}
}

// TestP17_1CanNot: one past each limit, and far past it.
func TestP17_1CanNot(t *testing.T) {
	wrong := []api.Geom{
		{},
		{Groups: 0, Blocks: 32, Inodes: 8}, {Groups: 9, Blocks: 32, Inodes: 8},
		{Groups: 1, Blocks: 7, Inodes: 4}, {Groups: 1, Blocks: 257, Inodes: 8},
		{Groups: 1, Blocks: 32, Inodes: 0}, {Groups: 1, Blocks: 256, Inodes: 68},
		{Groups: 1, Blocks: 32, Inodes: 3}, {Groups: 1, Blocks: 32, Inodes: 5}, {Groups: 1, Blocks: 32, Inodes: 6}, {Groups: 1, Blocks: 32, Inodes: 63},
		{Groups: 1, Blocks: 8, Inodes: 24}, {Groups: 1, Blocks: 18, Inodes: 64}, // without a block for data
	}
	for _, n := range []int{math.MinInt, math.MinInt32, -256, -8, -4, -1, 1 << 16, 1<<32 + 8, math.MaxInt - 3, math.MaxInt} {
		wrong = append(wrong, api.Geom{Groups: n, Blocks: 32, Inodes: 8},
			api.Geom{Groups: 1, Blocks: n, Inodes: 8}, api.Geom{Groups: 1, Blocks: 32, Inodes: n}, api.Geom{Groups: n, Blocks: n, Inodes: n})
	}
	for _, g := range wrong {
		if image, e := Make(g); e != api.ErrGeom || len(image) != 0 {
			t.Fatalf("%+v: %d blocks, %v", g, len(image), e)
		}
	}
}

// TestP17_1OwnMemory: no two blocks share any, spare room included, nor do two
// answers.
func TestP17_1OwnMemory(t *testing.T) {
	g := api.Geom{Groups: 3, Blocks: 12, Inodes: 8}
	image, _ := Make(g)
	other, _ := Make(g)
	for b := range image {
		for _, l := range [][]byte{image[b], other[b]} {
			l = l[:cap(l)]
			for i := range l {
				l[i] = 0xaa
			}
		}
		for later := b + 1; later < len(image); later++ {
			if want := book(g)[later]; !bytes.Equal(image[later], want) || !bytes.Equal(other[later], want) {
				t.Fatal("block", b, "shares memory with", later)
			}
		}
	}
	other[0][0], image[0][0] = 1, 2
	spare := image[:cap(image)]
	for i := range spare {
		spare[i] = nil
	}
	again, _ := Make(g)
	if other[0][0] != 1 || other[1] == nil || !equalImages(again, book(g)) {
		t.Fatal("answers share memory")
	}
}
