package audit

import (
	"math"
	"slices"
	"testing"

	"bollard/api"
	"bollard/geom"
)

func TestP26_3Count(t *testing.T) {
	w := town()
	got, e := Count(w.image)
	answers(t, api.OK, e)
	blocks := 2 + 2 + (10 + 1 + 1 + 4) + 1 + 1 + (6 + 1) + 8*2 + 1 // the root, /a, /f, /d, /d/sub, /e, what leaks
	inodes := 5 + 8 + 2 + 5                                        // 3 to 7, 8 to 15, 16 and 17, 20 to 24
	want := Totals{Blocks: blocks, FreeBlocks: 244 - blocks, Inodes: inodes, LostInodes: 8 + 3, FreeInodes: 29 - inodes}
	if got != want {
		t.Fatal(got, want)
	}
	told(t, w)
}

// TestP26_3Leaks: blocks and inodes that are allocated and lost, or used without
// being allocated.
func TestP26_3Leaks(t *testing.T) {
	w := newWorld(small)
	begin := Totals{Blocks: 1, FreeBlocks: 27, FreeInodes: 5}
	for _, c := range []struct {
		do   func()
		want Totals
	}{
		{func() {}, begin},
		{func() { w.block(9, true) }, Totals{Blocks: 2, LostBlocks: 1, FreeBlocks: 26, FreeInodes: 5}},
		{func() { w.inode(3, true) }, Totals{Blocks: 2, LostBlocks: 1, FreeBlocks: 26, Inodes: 1, LostInodes: 1, FreeInodes: 4}},
		{func() { w.add(7, api.ModeFile); w.inode(7, false) }, Totals{Blocks: 2, LostBlocks: 1, FreeBlocks: 26, Inodes: 1, LostInodes: 2, FreeInodes: 4}},
		{func() { w.file(2, 4, "a"); w.grow(4, 0) }, Totals{Blocks: 3, LostBlocks: 1, FreeBlocks: 25, Inodes: 2, LostInodes: 2, FreeInodes: 3}},
		{func() { w.links(4, 9) }, Totals{Blocks: 3, LostBlocks: 1, FreeBlocks: 25, Inodes: 2, LostInodes: 2, FreeInodes: 3}},
		{func() { w.put(3, api.Dinode{Mode: api.ModeFile}); w.grow(3, 0) }, Totals{Blocks: 4, LostBlocks: 1, FreeBlocks: 24, Inodes: 2, LostInodes: 2, FreeInodes: 3}},
	} {
		c.do()
		if got, e := Count(w.image); got != c.want || e != api.OK {
			t.Fatal(got, e, "and not", c.want)
		}
		told(t, w)
	}
}

// TestP26_3NotCounted: inodes 0 to 2, blocks that are not of data, and bits past
// a group's end play no part, whatever their bits are.
func TestP26_3NotCounted(t *testing.T) {
	for _, on := range []bool{false, true} {
		for _, g := range []api.Geom{small, {Groups: 2, Blocks: 20, Inodes: 12}, {Groups: 1, Blocks: 256, Inodes: 64}} {
			w := newWorld(g)
			want := told(t, w)
			totals, _ := Count(w.image)
			lines, _ := Print(w.image)
			w.inode(0, on)
			w.inode(1, on)
			for b := range w.image {
				if !w.isData(b) {
					w.block(b, on)
				}
			}
			for group := range g.Groups {
				for bit := g.Blocks; bit < 256; bit++ {
					turn(w.image[group*g.Blocks+1], 12, bit, on)
				}
				for bit := g.Inodes; bit < 64; bit++ {
					turn(w.image[group*g.Blocks+1], 4, bit, on)
				}
			}
			answers(t, api.OK, Held(w.image, want))
			if got, e := Count(w.image); got != totals || e != api.OK {
				t.Fatal(got, e, totals)
			}
			if got, e := Print(w.image); !slices.Equal(got, lines) || e != api.OK {
				t.Fatal(got, e, lines)
			}
			told(t, w)
		}
	}
}

// TestP26_3Groups: each group has a gauge of its own; a full one has no number
// for its pieces.
func TestP26_3Groups(t *testing.T) {
	w := newWorld(api.Geom{Groups: 4, Blocks: 14, Inodes: 8}) // ten blocks of data each
	for b := range w.image {
		bit := b % 14
		switch b / 14 {
		case 0:
			w.block(b, bit < 8) // 4 to 13: 4 used, 6 in one piece
		case 1:
			w.block(b, true)
		case 2:
			w.block(b, bit%2 == 0) // 5 pieces of 1
		case 3:
			w.block(b, bit == 7) // 3 and 6
		}
	}
	lines, e := Print(w.image)
	answers(t, api.OK, e)
	want := []string{"blocks 20 of 40", "inodes 0 of 29", "lost 19 0", "group 0 0.400 0.000", "group 1 1.000 nan", "group 2 0.500 0.800", "group 3 0.100 0.333"}
	if !slices.Equal(lines, want) {
		t.Fatal(lines)
	}
	gauges, e := Gauges(w.image)
	answers(t, api.OK, e)
	var fills []float64
	for _, g := range gauges {
		fills = append(fills, math.Float64frombits(g))
	}
	if !slices.Equal(fills, []float64{0.4, 1, 0.5, 0.1}) {
		t.Fatal(fills)
	}
	told(t, w)
}

// TestP26_3P8Bits: gauges are one division, rounded once.
func TestP26_3P8Bits(t *testing.T) {
	for blocks := 8; blocks <= 256; blocks += 7 {
		w := newWorld(api.Geom{Groups: 2, Blocks: blocks, Inodes: 4})
		for len(w.free()) > 0 {
			gauges, e := Gauges(w.image)
			if e != api.OK || !slices.Equal(gauges, w.gauges()) {
				t.Fatal(gauges, e)
			}
			for range 1 + len(w.free())/5 {
				w.take()
			}
		}
		told(t, w)
	}
}

// TestP26_4Room: allocated and free blocks are all blocks of data.
func TestP26_4Room(t *testing.T) {
	for _, g := range []api.Geom{small, large, {Groups: 8, Blocks: 256, Inodes: 64}, {Groups: 8, Blocks: 8, Inodes: 4}, {Groups: 5, Blocks: 19, Inodes: 64}} {
		w := newWorld(g)
		for {
			got, e := Count(w.image)
			if e != api.OK || got.Blocks+got.FreeBlocks != geom.Room(g) || got.Inodes+got.FreeInodes != geom.Inodes(g)-3 {
				t.Fatal(got, e)
			}
			if len(w.free()) == 0 {
				break
			}
			for range 1 + len(w.free())/2 {
				w.take()
			}
		}
	}
}
