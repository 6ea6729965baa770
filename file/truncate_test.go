package file

import (
	"math"
	"reflect"
	"slices"
	"testing"

	"bollard/api"
	"bollard/volume"
)

// dense has a file 3 with the blocks 0 to 6, 68, 69 and 132, of each all bytes:
// these are the blocks 4 to 7 of the volume; 9, 10 and 11 by Single, 8; 14 and
// 15 by 13, and 17 by 16, both by Double, 12.
func dense(t *testing.T) *book {
	t.Helper()
	k := newBook(one)
	for _, i := range []int{0, 1, 2, 3, 4, 5, 6, 68, 69, 132} {
		_, e := k.write(3, i*128, letters(128))
		answers(t, api.OK, e)
	}
	return k.anew()
}

// TestP15_3Patches: some sizes, and each patch told by hand.
func TestP15_3Patches(t *testing.T) {
	noughts := make([]byte, 128)
	none := []byte{0, 0}
	was := api.Dinode{Mode: api.ModeFile, Links: 1, Size: 133 * 128, Direct: [4]int{4, 5, 6, 7}, Single: 8, Double: 12}
	if got := dense(t).get(3); got != was {
		t.Fatal(got)
	}
	of := func(size int, direct [4]int, single, double int) []byte {
		return dinode(t, api.Dinode{Mode: api.ModeFile, Links: 1, Size: size, Direct: direct, Single: single, Double: double})
	}
	for _, c := range []struct {
		size  int
		steps []step
		ids   []int
	}{
		{133*128 + 1, []step{{2, 96, of(133*128+1, was.Direct, 8, 12), nil}}, []int{1}},
		{133*128 - 5, []step{
			{2, 96, of(133*128-5, was.Direct, 8, 12), nil},
			{17, 123, noughts[:5], []int{1}},
		}, []int{1, 2}},
		{68*128 + 1, []step{
			{2, 96, of(68*128+1, was.Direct, 8, 12), nil},
			{12, 2, none, []int{1}}, // from above down: what 16 led to, then what is in 13
			{1, 14, []byte{0x02}, []int{2}}, {1, 14, []byte{0x00}, []int{2}},
			{13, 2, none, []int{1}},
			{1, 13, []byte{0x7f}, []int{5}},
			{14, 1, noughts[:127], []int{1}},
		}, []int{1, 2, 5, 7}},
		{4*128 + 10, []step{
			{2, 96, of(4*128+10, was.Direct, 8, 0), nil},
			{1, 13, []byte{0xef}, []int{1}}, {1, 13, []byte{0xcf}, []int{1}}, {1, 13, []byte{0x8f}, []int{1}}, {1, 13, []byte{0x0f}, []int{1}},
			{1, 14, []byte{0x02}, []int{1}}, {1, 14, []byte{0x00}, []int{1}},
			{8, 4, none, []int{1}},
			{1, 13, []byte{0x07}, []int{8}},
			{8, 2, none, []int{1}},
			{1, 13, []byte{0x03}, []int{10}},
			{9, 10, noughts[:118], []int{1}},
		}, []int{1, 8, 10, 12}},
		{0, []step{
			{2, 96, of(0, [4]int{}, 0, 0), nil},
			{1, 12, []byte{0xef}, []int{1}}, {1, 12, []byte{0xcf}, []int{1}}, {1, 12, []byte{0x8f}, []int{1}}, {1, 12, []byte{0x0f}, []int{1}},
			{1, 13, []byte{0xfe}, []int{1}}, {1, 13, []byte{0xfc}, []int{1}}, {1, 13, []byte{0xf8}, []int{1}}, {1, 13, []byte{0xf0}, []int{1}},
			{1, 13, []byte{0xe0}, []int{1}}, {1, 13, []byte{0xc0}, []int{1}}, {1, 13, []byte{0x80}, []int{1}}, {1, 13, []byte{0x00}, []int{1}},
			{1, 14, []byte{0x02}, []int{1}}, {1, 14, []byte{0x00}, []int{1}},
		}, []int{1}},
	} {
		agrees(t, dense(t), func(v *volume.Volume) ([]int, api.Errno) {
			return Truncate(v, one, 3, c.size)
		}, func(k *book) ([]int, api.Errno) {
			for _, s := range c.steps {
				k.change(s.block, s.off, s.bytes, s.needs...)
			}
			return c.ids, api.OK
		})
	}
}

// sizes are some within a block, at its end and past it, where Direct, Single,
// Double and the blocks in it end and begin, and others.
func sizes() []int {
	var out []int
	for _, i := range []int{0, 1, 2, 3, 4, 5, 6, 7, 66, 67, 68, 69, 70, 71, 100, 131, 132, 133, 195, 196, 1000, 4099, 4100, 4163, 4164} {
		for _, by := range []int{-1, 0, 57} {
			if size := i*128 + by; size >= 0 && size <= api.MaxFile {
				out = append(out, size)
			}
		}
	}
	return out
}

// TestP15_3Truncate: each size, of a file with holes and of one without, on the
// disk and on its way there.
func TestP15_3Truncate(t *testing.T) {
	fresh := newBook(two)
	_, e := fresh.write(3, 300, letters(700))
	answers(t, api.OK, e)
	_, e = fresh.write(3, 67*128-3, letters(300))
	answers(t, api.OK, e)
	for _, k := range []*book{newBook(two), holed(t), dense(t), fresh} {
		has := k.get(3).Size
		for _, size := range append(sizes(), max(0, has-1), has, has+1, has+20) {
			agrees(t, k, func(v *volume.Volume) ([]int, api.Errno) { return Truncate(v, k.g, 3, size) },
				func(k *book) ([]int, api.Errno) { return k.truncate(3, size), api.OK })
		}
	}
}

// TestP15_3Far: addresses of which both bytes count.
func TestP15_3Far(t *testing.T) {
	for _, size := range sizes() {
		k := newBook(big)
		k.put(5, api.Dinode{Mode: api.ModeFile}) // in group 1, whose blocks begin at 256
		for _, i := range []int{0, 3, 4, 5, 6, 68, 69, 132} {
			_, e := k.write(5, i*128, letters(128))
			answers(t, api.OK, e)
		}
		k = k.anew()
		_, v := open(t, k.now)
		ids, e := Truncate(v, big, 5, size)
		if want := k.truncate(5, size); !slices.Equal(ids, want) || e != api.OK {
			t.Fatal(size, ids, want, e)
		}
		if got := now(t, v); !reflect.DeepEqual(got, k.now) {
			t.Fatal(size, "other bytes have turned")
		}
	}
}

// TestP15_3Beyond: a file that grows keeps blocks that it had beyond its end;
// one that is cut loses them.
func TestP15_3Beyond(t *testing.T) {
	for _, size := range []int{5, 56, 57, 58, 200, 4*128 + 7, 5 * 128, 70 * 128, api.MaxFile} {
		k := dense(t)
		d := k.get(3)
		d.Size = 57
		k.put(3, d)
		agrees(t, k.anew(), func(v *volume.Volume) ([]int, api.Errno) { return Truncate(v, one, 3, size) },
			func(k *book) ([]int, api.Errno) { return k.truncate(3, size), api.OK })
	}
}

// TestP15_3Same: of the same size nothing happens, and nothing is told.
func TestP15_3Same(t *testing.T) {
	k := dense(t)
	d, v := open(t, k.now)
	stays(t, d, v, api.OK, askTruncate(v, one, 3, 133*128))
}

func TestP15_3Refuses(t *testing.T) {
	k := dense(t)
	d, v := open(t, k.now)
	for _, size := range wild() {
		want := api.ErrArg
		if size > 0 {
			want = api.ErrBig
		}
		stays(t, d, v, want, askTruncate(v, one, 3, size))
	}
	stays(t, d, v, api.ErrBig, askTruncate(v, one, 3, api.MaxFile+1))
	if ids, e := Truncate(v, one, 3, api.MaxFile); !reflect.DeepEqual(ids, []int{1}) || e != api.OK {
		t.Fatal(ids, e)
	}
	if ids, e := Truncate(v, one, 3, 0); len(ids) != 1 || e != api.OK {
		t.Fatal(ids, e)
	}
}

// TestP15_3Errors: of what it needs, each in turn can't be read, or can't be;
// then all is taken back.
func TestP15_3Errors(t *testing.T) {
	k := dense(t)
	for _, b := range []int{8, 12, 13, 16, 1} { // the indirect blocks, and the header
		for _, size := range []int{0, 5, 4*128 + 1, 68*128 + 1, 70 * 128} {
			d, v := open(t, k.now)
			_, e := v.Change(30, 0, []byte{1}, nil)
			answers(t, api.OK, e)
			answers(t, api.OK, d.Fail(b, 1))
			stays(t, d, v, api.ErrIO, askTruncate(v, one, 3, size))
			if _, e := Truncate(v, one, 3, size); e != api.OK { // it is read now
				t.Fatal(e)
			}
			broken := cloned(k.now)
			broken[b][127] = 0xff
			d, v = open(t, broken)
			stays(t, d, v, api.ErrForm, askTruncate(v, one, 3, size))
		}
	}
}

// TestP15_3NotAllocated: what can't be given back is alloc's error, wherever
// the address stands; what stays plays no part.
func TestP15_3NotAllocated(t *testing.T) {
	for b := 4; b <= 17; b++ {
		k := dense(t)
		k.turn(b)
		for _, size := range []int{0, 1, 128, 3*128 + 1, 4 * 128, 5 * 128, 6*128 + 1, 68 * 128, 68*128 + 1, 69 * 128, 70 * 128, 132 * 128, 132*128 + 1} {
			kept := dense(t)
			kept.truncate(3, size)
			d, v := open(t, k.now)
			if !kept.isFree(b) {
				if _, e := Truncate(v, one, 3, size); e != api.OK {
					t.Fatal(b, size, e)
				}
				continue
			}
			stays(t, d, v, api.ErrFree, askTruncate(v, one, 3, size))
		}
	}
}

// TestP15_3NoData: addresses of blocks that are no data are not given back.
func TestP15_3NoData(t *testing.T) {
	for _, b := range []int{1, 3, 40, 2047} {
		k := dense(t)
		d := k.get(3)
		d.Direct[2] = b
		k.put(3, d)
		k.change(8, 4, []byte{byte(b), byte(b >> 8)})
		k.change(13, 2, []byte{byte(b), byte(b >> 8)})
		disk, v := open(t, k.now)
		for _, size := range []int{0, 2 * 128, 5 * 128, 6 * 128, 69 * 128} {
			stays(t, disk, v, api.ErrBlock, askTruncate(v, one, 3, size))
		}
		if _, e := Truncate(v, one, 3, 70*128); e != api.OK {
			t.Fatal(e)
		}
	}
}

// TestP15_3Twice: a block to which two addresses lead is free already when the
// second one gives it back; if one of them stays, so does the block.
func TestP15_3Twice(t *testing.T) {
	k := dense(t)
	ino := k.get(3)
	ino.Direct[3] = ino.Direct[0]
	k.put(3, ino)
	k.turn(7)
	d, v := open(t, k.now)
	stays(t, d, v, api.ErrFree, askTruncate(v, one, 3, 0))
	if _, e := Truncate(v, one, 3, 1); e != api.OK {
		t.Fatal(e)
	}
	if header, _ := v.Read(1); header[12] != 0x1f {
		t.Fatalf("%x", header[12])
	}
}

// TestP15_3PutFirst: an inode that may not be is told ahead of a block that
// can't be read.
func TestP15_3PutFirst(t *testing.T) {
	k := dense(t)
	k.put(2, api.Dinode{Mode: api.ModeDir, Size: 128 * 10, Single: 20})
	d, v := open(t, k.now)
	stays(t, d, v, api.ErrArg, askTruncate(v, one, 2, 129))
	stays(t, d, v, api.ErrForm, askTruncate(v, one, 2, 128))
}

// TestP15_3Frozen: a view that can't keep what the last block had.
func TestP15_3Frozen(t *testing.T) {
	k := dense(t)
	for _, c := range [][2]int{{5, 4}, {3*128 + 1, 7}, {5*128 + 1, 10}, {69*128 + 127, 15}} {
		d, v := open(t, k.now)
		answers(t, api.OK, v.Freeze(1000))
		answers(t, api.OK, d.Fail(c[1], 1))
		if ids, e := Truncate(v, one, 3, c[0]); len(ids) != 0 || e != api.ErrIO || v.Last() != 0 || len(v.Dirty()) != 0 {
			t.Fatal(ids, e, v.Last())
		}
		if _, e := Truncate(v, one, 3, c[0]); e != api.OK {
			t.Fatal(e)
		}
	}
}

// TestP15_3OwnMemory: what is told is shared with nothing.
func TestP15_3OwnMemory(t *testing.T) {
	k := dense(t)
	d, v := open(t, k.now)
	ids, e := Truncate(v, one, 3, 4*128+3)
	answers(t, api.OK, e)
	was := stateOf(d, v)
	ids = ids[:cap(ids)]
	for i := range ids {
		ids[i] = math.MaxInt
	}
	if is := stateOf(d, v); !reflect.DeepEqual(is, was) {
		t.Fatal("what is told is shared")
	}
}
