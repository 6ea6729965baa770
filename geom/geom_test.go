package geom

import (
	"math"
	"testing"

	"bollard/api"
	"bollard/layout"
)

// part is what a block is for.
type part int

const (
	none part = iota
	super
	header
	inodes
	data
)

// lay is a volume block by block, laid out as DOC.md tells it.
func lay(g api.Geom) []part {
	var out []part
	for range g.Groups {
		begin := len(out)
		out = append(out, super, header)
		for range g.Inodes / 4 {
			out = append(out, inodes)
		}
		for len(out)-begin < g.Blocks {
			out = append(out, data)
		}
	}
	return out
}

// some are geometries that can be, the edges of each range among them.
func some() []api.Geom {
	var out []api.Geom
	for _, groups := range []int{1, 2, 3, 7, 8} {
		for _, blocks := range []int{8, 9, 16, 18, 19, 20, 32, 100, 255, 256} {
			for n := 4; n <= 64; n += 4 {
				if blocks >= 3+n/4 {
					out = append(out, api.Geom{Groups: groups, Blocks: blocks, Inodes: n})
				}
			}
		}
	}
	return out
}

// huge are numbers that are out of every range.
func huge() []int {
	return []int{math.MinInt, math.MinInt + 1, math.MinInt32, -1 << 16, -256, -64, -8, -1,
		1 << 16, math.MaxInt32, math.MaxUint32, math.MaxInt - 1, math.MaxInt}
}

// bad are geometries that can't be.
func bad() []api.Geom {
	out := []api.Geom{
		{},
		{Groups: 0, Blocks: 32, Inodes: 8}, {Groups: 9, Blocks: 32, Inodes: 8},
		{Groups: 1, Blocks: 7, Inodes: 8}, {Groups: 1, Blocks: 257, Inodes: 8},
		{Groups: 1, Blocks: 32, Inodes: 0}, {Groups: 1, Blocks: 32, Inodes: 68},
		{Groups: 1, Blocks: 32, Inodes: 3}, {Groups: 1, Blocks: 32, Inodes: 5},
		{Groups: 1, Blocks: 32, Inodes: 6}, {Groups: 1, Blocks: 32, Inodes: 7}, {Groups: 1, Blocks: 32, Inodes: 63},
		{Groups: 1, Blocks: 8, Inodes: 24}, {Groups: 8, Blocks: 18, Inodes: 64},
		{Groups: 1, Blocks: 8, Inodes: 64}, {Groups: 1, Blocks: 9, Inodes: 28},
	}
	for _, n := range huge() {
		out = append(out,
			api.Geom{Groups: n, Blocks: 32, Inodes: 8}, api.Geom{Groups: 1, Blocks: n, Inodes: 8},
			api.Geom{Groups: 1, Blocks: 32, Inodes: n}, api.Geom{Groups: n, Blocks: n, Inodes: n},
			api.Geom{Groups: 1, Blocks: n, Inodes: n}, api.Geom{Groups: 1, Blocks: n, Inodes: -n})
	}
	return out
}

func TestP4_1CanEdges(t *testing.T) {
	for _, g := range []api.Geom{
		{Groups: 1, Blocks: 8, Inodes: 4}, {Groups: 8, Blocks: 256, Inodes: 64},
		{Groups: 1, Blocks: 8, Inodes: 20}, {Groups: 1, Blocks: 19, Inodes: 64}, {Groups: 8, Blocks: 9, Inodes: 24},
		{Groups: 2, Blocks: 16, Inodes: 8},
	} {
		if e := Can(g); e != api.OK {
			t.Errorf("%v: %v", g, e)
		}
	}
	for _, g := range bad() {
		if e := Can(g); e != api.ErrGeom {
			t.Errorf("%v: %v", g, e)
		}
	}
}

func TestP4_1CanAll(t *testing.T) {
	can := 0
	for groups := -2; groups <= 10; groups++ {
		for blocks := -2; blocks <= 260; blocks++ {
			for n := -8; n <= 72; n++ {
				g := api.Geom{Groups: groups, Blocks: blocks, Inodes: n}
				want := api.OK
				if groups < 1 || groups > 8 || blocks < 8 || blocks > 256 || n < 4 || n > 64 || n&3 != 0 || blocks < 3+n/4 {
					want = api.ErrGeom
				} else {
					can++
				}
				if e := Can(g); e != want {
					t.Fatalf("%v: %v, want %v", g, e, want)
				}
			}
		}
	}
	// Of 249 numbers of blocks those below 3 + n/4 can't be: 1 of 24 inodes, up to 11 of 64.
	if want := 8 * (249*16 - 66); can != want {
		t.Fatalf("%d can be, want %d", can, want)
	}
}

// TestP4_1CanAsSuper: a superblock may have just the geometries that can be.
func TestP4_1CanAsSuper(t *testing.T) {
	check := func(g api.Geom) {
		t.Helper()
		_, e := layout.EncodeSuper(api.Super{Geom: g})
		if (e == api.OK) != (Can(g) == api.OK) {
			t.Errorf("%v: %v as a superblock's, %v", g, e, Can(g))
		}
	}
	for _, g := range append(some(), bad()...) {
		check(g)
	}
	for blocks := 6; blocks <= 20; blocks++ {
		for n := 0; n <= 68; n++ {
			check(api.Geom{Groups: 1, Blocks: blocks, Inodes: n})
		}
	}
}

func TestP4_1NothingOfWhatCannotBe(t *testing.T) {
	for _, g := range bad() {
		if Blocks(g) != 0 || Inodes(g) != 0 || Room(g) != 0 {
			t.Errorf("%v: %d, %d, %d", g, Blocks(g), Inodes(g), Room(g))
		}
		for _, n := range append(huge(), 0, 1, 2, 3, 4, 7, 8, 31, 32) {
			nothing(t, g, n)
		}
	}
}

// nothing fails if a geometry has a group, an inode or a block of that number.
func nothing(t *testing.T, g api.Geom, n int) {
	t.Helper()
	noGroup(t, g, n)
	noInode(t, g, n)
	noBlock(t, g, n)
}

func noGroup(t *testing.T, g api.Geom, n int) {
	t.Helper()
	if b, ok := Super(g, n); b != 0 || ok {
		t.Errorf("%v: Super(%d): %d, %v", g, n, b, ok)
	}
	if b, ok := Header(g, n); b != 0 || ok {
		t.Errorf("%v: Header(%d): %d, %v", g, n, b, ok)
	}
	if b, many, ok := Data(g, n); b != 0 || many != 0 || ok {
		t.Errorf("%v: Data(%d): %d, %d, %v", g, n, b, many, ok)
	}
}

func noInode(t *testing.T, g api.Geom, n int) {
	t.Helper()
	if b, at, ok := Inode(g, n); b != 0 || at != 0 || ok {
		t.Errorf("%v: Inode(%d): %d, %d, %v", g, n, b, at, ok)
	}
	if group, bit, ok := Owner(g, n); group != 0 || bit != 0 || ok {
		t.Errorf("%v: Owner(%d): %d, %d, %v", g, n, group, bit, ok)
	}
}

func noBlock(t *testing.T, g api.Geom, n int) {
	t.Helper()
	if group, bit, ok := Group(g, n); group != 0 || bit != 0 || ok {
		t.Errorf("%v: Group(%d): %d, %d, %v", g, n, group, bit, ok)
	}
	if IsData(g, n) {
		t.Errorf("%v: IsData(%d)", g, n)
	}
}

func TestP4_1Counts(t *testing.T) {
	for _, x := range []struct {
		g                    api.Geom
		blocks, inodes, room int
	}{
		{api.Geom{Groups: 2, Blocks: 16, Inodes: 8}, 32, 16, 24},
		{api.Geom{Groups: 1, Blocks: 8, Inodes: 4}, 8, 4, 5},
		{api.Geom{Groups: 1, Blocks: 8, Inodes: 20}, 8, 20, 1},
		{api.Geom{Groups: 8, Blocks: 256, Inodes: 64}, 2048, 512, 1904},
		{api.Geom{Groups: 8, Blocks: 19, Inodes: 64}, 152, 512, 8},
	} {
		if Blocks(x.g) != x.blocks || Inodes(x.g) != x.inodes || Room(x.g) != x.room {
			t.Errorf("%v: %d, %d, %d", x.g, Blocks(x.g), Inodes(x.g), Room(x.g))
		}
	}
	for _, g := range some() {
		room := 0
		for _, p := range lay(g) {
			if p == data {
				room++
			}
		}
		if Blocks(g) != len(lay(g)) || Room(g) != room || Inodes(g) != g.Groups*g.Inodes {
			t.Errorf("%v: %d, %d, %d", g, Blocks(g), Inodes(g), Room(g))
		}
	}
}

func TestP4_2Example(t *testing.T) {
	g := api.Geom{Groups: 2, Blocks: 16, Inodes: 8}
	if b, ok := Super(g, 1); b != 16 || !ok {
		t.Error(b, ok)
	}
	if b, ok := Header(g, 1); b != 17 || !ok {
		t.Error(b, ok)
	}
	if b, many, ok := Data(g, 0); b != 4 || many != 12 || !ok {
		t.Error(b, many, ok)
	}
	if b, many, ok := Data(g, 1); b != 20 || many != 12 || !ok {
		t.Error(b, many, ok)
	}
}

// TestP4_2Places finds the parts of each group by going over its blocks.
func TestP4_2Places(t *testing.T) {
	for _, g := range some() {
		blocks := lay(g)
		for group := range g.Groups {
			places := map[part][]int{}
			for b := group * g.Blocks; b < (group+1)*g.Blocks; b++ {
				places[blocks[b]] = append(places[blocks[b]], b)
			}
			if b, ok := Super(g, group); b != places[super][0] || !ok {
				t.Errorf("%v: Super(%d): %d, %v", g, group, b, ok)
			}
			if b, ok := Header(g, group); b != places[header][0] || !ok {
				t.Errorf("%v: Header(%d): %d, %v", g, group, b, ok)
			}
			if b, many, ok := Data(g, group); b != places[data][0] || many != len(places[data]) || !ok {
				t.Errorf("%v: Data(%d): %d, %d, %v", g, group, b, many, ok)
			}
		}
	}
}

func TestP4_2NoSuchGroup(t *testing.T) {
	for _, g := range some() {
		for _, n := range append(huge(), g.Groups, g.Groups+1, 9) {
			noGroup(t, g, n)
		}
	}
}

func TestP4_3Example(t *testing.T) {
	g := api.Geom{Groups: 2, Blocks: 16, Inodes: 8}
	for _, x := range []struct{ ino, block, at, group, bit int }{
		{0, 2, 0, 0, 0}, {1, 2, 32, 0, 1}, {2, 2, 64, 0, 2}, {3, 2, 96, 0, 3}, {4, 3, 0, 0, 4}, {7, 3, 96, 0, 7},
		{8, 18, 0, 1, 0}, {9, 18, 32, 1, 1}, {12, 19, 0, 1, 4}, {15, 19, 96, 1, 7},
	} {
		if b, at, ok := Inode(g, x.ino); b != x.block || at != x.at || !ok {
			t.Errorf("Inode(%d): %d, %d, %v", x.ino, b, at, ok)
		}
		if group, bit, ok := Owner(g, x.ino); group != x.group || bit != x.bit || !ok {
			t.Errorf("Owner(%d): %d, %d, %v", x.ino, group, bit, ok)
		}
	}
	for _, x := range []struct {
		b, group, bit int
		data          bool
	}{
		{0, 0, 0, false}, {1, 0, 1, false}, {3, 0, 3, false}, {4, 0, 4, true}, {15, 0, 15, true},
		{16, 1, 0, false}, {17, 1, 1, false}, {19, 1, 3, false}, {20, 1, 4, true}, {31, 1, 15, true},
	} {
		if group, bit, ok := Group(g, x.b); group != x.group || bit != x.bit || !ok || IsData(g, x.b) != x.data {
			t.Errorf("%d: %d, %d, %v, %v", x.b, group, bit, ok, IsData(g, x.b))
		}
	}
}

// TestP4_3Inodes numbers inodes as they come, going over the blocks of inodes.
func TestP4_3Inodes(t *testing.T) {
	for _, g := range some() {
		ino := 0
		for block, p := range lay(g) {
			for at := 0; p == inodes && at < 128; at += 32 {
				if b, x, ok := Inode(g, ino); b != block || x != at || !ok {
					t.Fatalf("%v: Inode(%d): %d, %d, %v; want %d, %d", g, ino, b, x, ok, block, at)
				}
				group, bit, ok := Owner(g, ino)
				if !ok || group != block/g.Blocks || group*g.Inodes+bit != ino || bit < 0 || bit >= g.Inodes {
					t.Fatalf("%v: Owner(%d): %d, %d, %v", g, ino, group, bit, ok)
				}
				ino++
			}
		}
		if ino != Inodes(g) {
			t.Fatalf("%v: %d inodes, %d", g, ino, Inodes(g))
		}
		for _, n := range append(huge(), ino, ino+1) {
			noInode(t, g, n)
		}
	}
}

func TestP4_3Blocks(t *testing.T) {
	for _, g := range some() {
		blocks := lay(g)
		for b, p := range blocks {
			group, bit, ok := Group(g, b)
			if !ok || group < 0 || group >= g.Groups || bit < 0 || bit >= g.Blocks || group*g.Blocks+bit != b {
				t.Fatalf("%v: Group(%d): %d, %d, %v", g, b, group, bit, ok)
			}
			if IsData(g, b) != (p == data) {
				t.Fatalf("%v: IsData(%d): %v", g, b, IsData(g, b))
			}
		}
		for _, n := range append(huge(), len(blocks), len(blocks)+1) {
			noBlock(t, g, n)
		}
	}
}

// TestP4_4Apart collects all that the calls tell: each block once.
func TestP4_4Apart(t *testing.T) {
	for _, g := range some() {
		times := make([]int, Blocks(g))
		for group := range g.Groups {
			b, _ := Super(g, group)
			times[b]++
			b, _ = Header(g, group)
			times[b]++
			first, many, _ := Data(g, group)
			for b := first; b < first+many; b++ {
				times[b]++
				if !IsData(g, b) {
					t.Fatalf("%v: %d is none of data", g, b)
				}
			}
		}
		for ino := range Inodes(g) {
			if b, at, _ := Inode(g, ino); at == 0 {
				times[b]++
			}
		}
		for b, n := range times {
			if n != 1 {
				t.Fatalf("%v: block %d stands %d times", g, b, n)
			}
		}
	}
}

func TestP4_5Apart(t *testing.T) {
	type place struct{ b, at int }
	for _, g := range some() {
		who, owner := map[place]int{}, map[place]int{}
		for ino := range Inodes(g) {
			b, at, _ := Inode(g, ino)
			if other, ok := who[place{b, at}]; ok {
				t.Fatalf("%v: %d and %d both lie at %d, %d", g, other, ino, b, at)
			}
			who[place{b, at}] = ino
			if IsData(g, b) || at < 0 || at%32 != 0 || at > 96 {
				t.Fatalf("%v: %d lies at %d, %d", g, ino, b, at)
			}
			group, bit, _ := Owner(g, ino)
			if other, ok := owner[place{group, bit}]; ok {
				t.Fatalf("%v: %d and %d both have bit %d of group %d", g, other, ino, bit, group)
			}
			owner[place{group, bit}] = ino
		}
	}
}
