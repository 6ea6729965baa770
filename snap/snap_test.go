package snap

import (
	"bytes"
	"math"
	"reflect"
	"testing"

	"bollard/api"
	"bollard/disk"
	"bollard/volume"
)

// small is the least geometry that can be.
var small = api.Geom{Groups: 1, Blocks: 8, Inodes: 4}

// full is a block whose bytes are all x.
func full(x byte) []byte {
	return bytes.Repeat([]byte{x}, api.Size)
}

// with is a block whose bytes are all x, but for those from its first on.
func with(x byte, put ...byte) []byte {
	b := full(x)
	copy(b, put)
	return b
}

// fresh is a volume over a disk whose block b has all bytes b.
func fresh(t *testing.T, blocks, buffers int) (*disk.Disk, *volume.Volume) {
	t.Helper()
	image := make([][]byte, blocks)
	for b := range image {
		image[b] = full(byte(b))
	}
	d, e := disk.Of(image)
	answers(t, api.OK, e)
	v, e := volume.Open(d, buffers)
	answers(t, api.OK, e)
	return d, v
}

func answers(t *testing.T, want, got api.Errno) {
	t.Helper()
	if got != want {
		t.Fatalf("%v, want %v", got, want)
	}
}

func take(t *testing.T, v *volume.Volume, g api.Geom, gen, room int) *Snap {
	t.Helper()
	s, e := Take(v, g, gen, room)
	if s == nil || e != api.OK {
		t.Fatalf("Take(%v, %d, %d): %v", g, gen, room, e)
	}
	return s
}

func refuses(t *testing.T, want api.Errno, v *volume.Volume, g api.Geom, gen, room int) {
	t.Helper()
	if s, e := Take(v, g, gen, room); s != nil || e != want {
		t.Fatalf("Take(%v, %d, %d): %v, %v; want %v", g, gen, room, s, e, want)
	}
}

// thawed fails if a volume is frozen.
func thawed(t *testing.T, v *volume.Volume) {
	t.Helper()
	answers(t, api.ErrState, v.Thaw())
}

func change(t *testing.T, v *volume.Volume, b int, x byte) {
	t.Helper()
	if _, e := v.Change(b, 0, []byte{x}, nil); e != api.OK {
		t.Fatal(e)
	}
}

func reads(t *testing.T, s *Snap, b int, want []byte) {
	t.Helper()
	if got, e := s.Read(b); e != api.OK || !bytes.Equal(got, want) {
		t.Fatalf("Read(%d): %x, %v; want %x", b, got, e, want)
	}
}

func readFails(t *testing.T, s *Snap, b int, want api.Errno) {
	t.Helper()
	if got, e := s.Read(b); len(got) != 0 || e != want {
		t.Fatalf("Read(%d): %x, %v; want %v", b, got, e, want)
	}
}

func imageFails(t *testing.T, s *Snap, want api.Errno) {
	t.Helper()
	if got, e := s.Image(); len(got) != 0 || e != want {
		t.Fatalf("Image: %x, %v; want %v", got, e, want)
	}
}

func images(t *testing.T, s *Snap, want [][]byte) {
	t.Helper()
	if got, e := s.Image(); e != api.OK || !reflect.DeepEqual(got, want) {
		t.Fatalf("Image: %x, %v; want %x", got, e, want)
	}
}

func has(t *testing.T, s *Snap, kept int, broken bool) {
	t.Helper()
	if s.Kept() != kept || s.Broken() != broken {
		t.Fatalf("kept %d, broken %t; want %d, %t", s.Kept(), s.Broken(), kept, broken)
	}
}

func TestP10_1Take(t *testing.T) {
	_, v := fresh(t, 8, 4)
	for _, gen := range []int{1, 2, 1<<40 - 1, 1 << 40} {
		for _, room := range []int{0, 1, 1 << 16} {
			s := take(t, v, small, gen, room)
			if s.Gen() != gen || s.Geom() != small {
				t.Fatal(s.Gen(), s.Geom())
			}
			has(t, s, 0, false)
			if v.Freeze(1) != api.ErrState {
				t.Fatal("the volume is not frozen")
			}
			answers(t, api.OK, s.Drop())
		}
	}
	great := api.Geom{Groups: api.MaxGroups, Blocks: api.MaxBlocks, Inodes: api.MaxInodes}
	_, v = fresh(t, api.MaxDisk, 4)
	if s := take(t, v, great, 1, 0); s.Geom() != great {
		t.Fatal(s.Geom())
	}
}

func TestP10_1TakeRefuses(t *testing.T) {
	_, v := fresh(t, 16, 4)
	cant := [][3]int{{}, {1, 7, 4}, {0, 8, 4}, {1, 8, 5}, {1, 8, 24}, {-1, -8, -4}, {math.MaxInt, math.MaxInt, math.MaxInt}}
	fewer := [][3]int{{1, 17, 4}, {2, 9, 4}, {8, 256, 64}}
	for _, n := range append(cant, fewer...) {
		g := api.Geom{Groups: n[0], Blocks: n[1], Inodes: n[2]}
		for _, gen := range []int{1, 0} { // ErrGeom comes ahead of ErrArg
			refuses(t, api.ErrGeom, v, g, gen, 1)
		}
	}
	for _, gen := range []int{math.MinInt, -1, 0, 1<<40 + 1, math.MaxInt} {
		for _, room := range []int{1, -1} {
			refuses(t, api.ErrArg, v, small, gen, room)
		}
	}
	for _, room := range []int{math.MinInt, -1, 1<<16 + 1, math.MaxInt} {
		refuses(t, api.ErrArg, v, small, 1, room)
	}
	thawed(t, v)
	s := take(t, v, small, 1, 1)
	for _, room := range []int{1, -1, math.MaxInt} { // volume.Freeze tells ErrState first
		refuses(t, api.ErrState, v, small, 2, room)
	}
	refuses(t, api.ErrArg, v, small, 0, 1) // ahead of what Freeze tells
	reads(t, s, 3, full(3))
	for _, none := range []*volume.Volume{nil, {}} {
		for _, g := range []api.Geom{small, {}} {
			refuses(t, api.ErrNil, none, g, 0, -1)
			refuses(t, api.ErrNil, none, g, 1, 1)
		}
	}
}

func TestP10_2Read(t *testing.T) {
	d, v := fresh(t, 10, 1)
	change(t, v, 4, 50)
	s := take(t, v, small, 3, 2)
	for b := range 10 { // all that the volume has, beyond the geometry too
		if b != 4 {
			reads(t, s, b, full(byte(b)))
		}
	}
	reads(t, s, 4, with(4, 50))
	change(t, v, 4, 51)
	change(t, v, 5, 51)
	reads(t, s, 4, with(4, 50))
	reads(t, s, 5, full(5))
	has(t, s, 2, false)
	for _, b := range []int{math.MinInt, -1, 10, 11, math.MaxInt} {
		readFails(t, s, b, api.ErrBlock)
	}
	d.Fail(2, 1)
	readFails(t, s, 2, api.ErrIO)
	reads(t, s, 2, full(2))
	change(t, v, 6, 51)
	has(t, s, 2, true)
	for _, b := range []int{-1, 4, 5, 6, 7, 10} {
		readFails(t, s, b, api.ErrState)
	}
	imageFails(t, s, api.ErrState)
	if s.Gen() != 3 || s.Geom() != small {
		t.Fatal(s.Gen(), s.Geom())
	}
}

func TestP10_2Image(t *testing.T) {
	d, v := fresh(t, 10, 2)
	change(t, v, 4, 50)
	s := take(t, v, small, 1, 8)
	want := d.Image()[:8] // the geometry's, no more
	want[4] = with(4, 50)
	images(t, s, want)
	change(t, v, 4, 51)
	change(t, v, 7, 51)
	change(t, v, 9, 51)
	images(t, s, want)
	d.Fail(5, 1)
	imageFails(t, s, api.ErrIO)
	images(t, s, want)
	d.Fail(9, 1)
	images(t, s, want) // what is beyond the geometry plays no part
}

// TestP10_2ThawedBehindItsBack: what the volume answers is told.
func TestP10_2ThawedBehindItsBack(t *testing.T) {
	_, v := fresh(t, 8, 2)
	s := take(t, v, small, 1, 8)
	change(t, v, 4, 50)
	answers(t, api.OK, v.Thaw())
	readFails(t, s, 4, api.ErrState)
	imageFails(t, s, api.ErrState)
	has(t, s, 0, false)
	answers(t, api.ErrState, s.Drop())
	readFails(t, s, 4, api.ErrState) // it was not dropped
}

func TestP10_3Drop(t *testing.T) {
	_, v := fresh(t, 8, 2)
	s := take(t, v, small, 7, 1)
	change(t, v, 4, 50)
	change(t, v, 5, 50)
	has(t, s, 1, true)
	answers(t, api.OK, s.Drop())
	for range 2 {
		answers(t, api.ErrGone, s.Drop())
		for _, b := range []int{-1, 0, 4, 8} {
			readFails(t, s, b, api.ErrGone)
		}
		imageFails(t, s, api.ErrGone)
		has(t, s, 0, false)
		if s.Gen() != 7 || s.Geom() != small { // what it was taken with
			t.Fatal(s.Gen(), s.Geom())
		}
	}
	thawed(t, v)
	if got, e := v.Read(4); e != api.OK || !bytes.Equal(got, with(4, 50)) {
		t.Fatalf("the volume: %x, %v", got, e)
	}
}

// TestMemory scribbles over what was answered.
func TestMemory(t *testing.T) {
	_, v := fresh(t, 8, 8)
	s := take(t, v, small, 1, 8)
	change(t, v, 4, 50)
	want, e := s.Image()
	answers(t, api.OK, e)
	for range 2 {
		for b := range 8 {
			got, e := s.Read(b)
			answers(t, api.OK, e)
			scribble(got)
		}
		got, e := s.Image()
		answers(t, api.OK, e)
		for b := range got {
			scribble(got[b])
			if b > 0 && !bytes.Equal(want[b], full(byte(b))) {
				t.Fatal("two answers share memory")
			}
		}
		images(t, s, want)
	}
	got, _ := s.Image()
	scribble(got[4])
	if !bytes.Equal(got[3], full(3)) || !bytes.Equal(got[5], full(5)) {
		t.Fatal("two blocks of an image share memory")
	}
	if now, _ := v.Read(4); !bytes.Equal(now, with(4, 50)) {
		t.Fatal("the volume's memory")
	}
}

// scribble overwrites a list, and the room behind its end.
func scribble(list []byte) {
	list = list[:cap(list)]
	for i := range list {
		list[i] = 77
	}
}

// TestNone: a snapshot that no call made.
func TestNone(t *testing.T) {
	for _, s := range []*Snap{nil, {}} {
		if s.Gen() != 0 || s.Geom() != (api.Geom{}) {
			t.Fatal("it tells something")
		}
		has(t, s, 0, false)
		for _, b := range []int{-1, 0, 1, math.MaxInt} {
			readFails(t, s, b, api.ErrNil)
		}
		imageFails(t, s, api.ErrNil)
		answers(t, api.ErrNil, s.Drop())
	}
}
