package inode

import (
	"math/rand"
	"slices"
	"testing"

	"bollard/api"
)

// big is the greatest geometry, all of whose addresses may stand in an inode.
var big = api.Geom{Groups: 8, Blocks: 256, Inodes: 64}

// reader tells from an image which blocks an inode has, as the chapter says it.
type reader [][]byte

func (r reader) at(block, k int) int {
	if block == 0 {
		return 0
	}
	return int(r[block][2*k]) + int(r[block][2*k+1])<<8
}

func (r reader) addr(d api.Dinode, i int) int {
	if i < 4 {
		return d.Direct[i]
	}
	if i < 68 {
		return r.at(d.Single, i-4)
	}
	return r.at(r.at(d.Double, (i-68)/64), (i-68)%64)
}

func (r reader) span(d api.Dinode) []int {
	l := slices.Clone(d.Direct[:])
	l = append(l, d.Single)
	for k := range 64 {
		l = append(l, r.at(d.Single, k))
	}
	l = append(l, d.Double)
	for k := range 64 {
		inner := r.at(d.Double, k)
		l = append(l, inner)
		for n := range 64 {
			l = append(l, r.at(inner, n))
		}
	}
	return slices.DeleteFunc(l, func(b int) bool { return b == 0 })
}

// scattered is an image with indirect blocks, in which one in rare addresses is
// not 0, and an inode that has them.
func scattered(source *rand.Rand, rare int) ([][]byte, api.Dinode) {
	image := newImage(big)
	some := func() int {
		if source.Intn(rare) > 0 {
			return 0
		}
		return 1 + source.Intn(2047)
	}
	d := api.Dinode{Mode: api.ModeFile, Links: 1, Direct: [4]int{some(), some(), some(), some()}}
	fans := []int{300, 301}
	d.Single, d.Double = 300, 301
	var inner []int
	for k := range 64 {
		if some() != 0 {
			inner = append(inner, 400+k)
			fans = append(fans, 400+k)
		} else {
			inner = append(inner, 0)
		}
	}
	for _, block := range fans {
		var l []int
		for range 64 {
			l = append(l, some())
		}
		fan(image, block, l...)
	}
	fan(image, 301, inner...)
	return image, d
}

func TestP13_2Addr(t *testing.T) {
	source := rand.New(rand.NewSource(2))
	for _, rare := range []int{1, 2, 9} {
		image, d := scattered(source, rare)
		_, v := open(t, image, 64)
		for _, d := range []api.Dinode{d, {}, {Direct: d.Direct}, {Single: 300}, {Double: 301}} {
			for i := range 4 + 64 + 64*64 {
				if got, e := Addr(v, big, d, i); got != reader(image).addr(d, i) || e != api.OK {
					t.Fatalf("%d: %d, %v; want %d", i, got, e, reader(image).addr(d, i))
				}
			}
		}
	}
}

func TestP13_2Span(t *testing.T) {
	source := rand.New(rand.NewSource(3))
	for _, rare := range []int{1, 2, 9} {
		image, d := scattered(source, rare)
		disk, v := open(t, image, 64)
		for _, d := range []api.Dinode{d, {}, {Direct: d.Direct}, {Direct: [4]int{0, 7, 0, 7}}, {Single: 300}, {Double: 301}, {Single: 301, Double: 300}} {
			was := v.Last()
			got, e := Span(v, big, d)
			if want := reader(image).span(d); !slices.Equal(got, want) || e != api.OK {
				t.Fatalf("%v: %v, %v; want %v", d, got, e, want)
			}
			if v.Last() != was || len(disk.Queue()) != 0 {
				t.Fatal("it has changed the volume")
			}
		}
	}
}

// TestP13_2SpanRing: an indirect block that has itself ends all the same.
func TestP13_2SpanRing(t *testing.T) {
	image := newImage(small)
	fan(image, 7, slices.Repeat([]int{7}, 64)...)
	_, v := open(t, image, 4)
	got, e := Span(v, small, api.Dinode{Double: 7})
	if want := slices.Repeat([]int{7}, 1+64*65); !slices.Equal(got, want) || e != api.OK {
		t.Fatal(len(got), e)
	}
}

func TestP13_2AddrRefuses(t *testing.T) {
	d, v := open(t, newImage(small), 4)
	for _, i := range append(wild(), 4164, 4165) {
		stays(t, d, v, api.ErrArg, askAddr(v, small, api.Dinode{Single: -1, Double: -1}, i))
		stays(t, d, v, api.ErrArg, askGrow(v, small, 3, api.Dinode{Single: -1, Double: -1}, i))
	}
	for _, i := range []int{0, 4163} {
		if b, e := Addr(v, small, api.Dinode{}, i); b != 0 || e != api.OK {
			t.Fatal(i, b, e)
		}
	}
}

// places are some places of blocks: ahead of, in and behind the indirect ones.
func places() []int {
	return []int{0, 3, 4, 5, 67, 68, 69, 131, 132, 4099, 4100, 4163}
}

// TestP13_2WildAddresses: an address in an inode that a hand made is told as it
// stands; an indirect block that there is not can't be read.
func TestP13_2WildAddresses(t *testing.T) {
	d, v := open(t, newImage(small), 4)
	for _, b := range append(wild(), 24, 2048) {
		ino := api.Dinode{Direct: [4]int{b, b, b, b}, Single: b, Double: b}
		for _, i := range places() {
			if i < 4 {
				if got, e := Addr(v, small, ino, i); got != b || e != api.OK {
					t.Fatal(got, e)
				}
				if got, grown, ahead, e := Grow(v, small, 3, ino, i); got != b || grown != ino || len(ahead) != 0 || e != api.OK {
					t.Fatal(got, grown, ahead, e)
				}
				continue
			}
			stays(t, d, v, api.ErrBlock, askAddr(v, small, ino, i))
			stays(t, d, v, api.ErrBlock, askGrow(v, small, 3, ino, i))
		}
		stays(t, d, v, api.ErrBlock, askSpan(v, small, ino))
		if got, e := Span(v, small, api.Dinode{Direct: [4]int{b, 0, 5, b}}); !slices.Equal(got, []int{b, 5, b}) || e != api.OK {
			t.Fatal(got, e)
		}
	}
}

// TestP13_2BeyondGeometry: an indirect block that the geometry has not, but the
// volume has, is read.
func TestP13_2BeyondGeometry(t *testing.T) {
	image := append(newImage(small), make([]byte, api.Size))
	fan(image, 24, 9)
	_, v := open(t, image, 4)
	if b, e := Addr(v, small, api.Dinode{Single: 24}, 4); b != 9 || e != api.OK {
		t.Fatal(b, e)
	}
	if l, e := Span(v, small, api.Dinode{Single: 24}); !slices.Equal(l, []int{24, 9}) || e != api.OK {
		t.Fatal(l, e)
	}
}

// TestP13_2Unread: who needs an indirect block that can't be read is told so,
// and nobody else.
func TestP13_2Unread(t *testing.T) {
	image := newImage(wide)
	fan(image, 10, 20, 0, 21)
	fan(image, 11, 12, 13, 0, 14)
	fan(image, 12, 22)
	fan(image, 13, 23)
	fan(image, 14, 24)
	ino := api.Dinode{Mode: api.ModeFile, Direct: [4]int{15}, Single: 10, Double: 11}
	for _, broken := range []struct{ block, from, end int }{{10, 4, 68}, {11, 68, 4164}, {12, 68, 132}, {13, 132, 196}, {14, 260, 324}} {
		for _, i := range append(places(), 133, 195, 196, 259, 260, 261, 323, 324) {
			for _, why := range []api.Errno{api.ErrIO, api.ErrForm} {
				image := slices.Clone(image)
				image[broken.block] = slices.Clone(image[broken.block])
				if why == api.ErrForm {
					image[broken.block][127] = 8 // the last address is one too great
				}
				d, v := open(t, image, 3)
				if why == api.ErrIO {
					answers(t, api.OK, d.Fail(broken.block, 100))
				}
				stays(t, d, v, why, askSpan(v, wide, ino))
				if i >= broken.from && i < broken.end {
					stays(t, d, v, why, askAddr(v, wide, ino, i))
					stays(t, d, v, why, askGrow(v, wide, 3, ino, i))
				} else if b, e := Addr(v, wide, ino, i); b != reader(image).addr(ino, i) || e != api.OK {
					t.Fatal(broken, i, b, e)
				}
			}
		}
	}
}

// TestP13_2OwnMemory: an answer shares nothing with another one.
func TestP13_2OwnMemory(t *testing.T) {
	_, v := open(t, newImage(small), 4)
	d := api.Dinode{Direct: [4]int{5, 6, 7}}
	one, _ := Span(v, small, d)
	clear(one[:cap(one)])
	if two, e := Span(v, small, d); !slices.Equal(two, []int{5, 6, 7}) || e != api.OK {
		t.Fatal(two, e)
	}
}
