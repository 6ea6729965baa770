package file

import (
	"bytes"
	"reflect"
	"slices"
	"testing"

	"bollard/api"
	"bollard/layout"
	"bollard/volume"
)

// dinode is the bytes of one.
func dinode(t *testing.T, d api.Dinode) []byte {
	t.Helper()
	b, e := layout.EncodeDinode(d)
	answers(t, api.OK, e)
	return b
}

// TestP15_2Patches: some writes, and each patch of them told by hand. In the
// geometry one the inode 3 stands in block 2 at 96, data begins at 4.
func TestP15_2Patches(t *testing.T) {
	noughts := make([]byte, 128)
	file := api.Dinode{Mode: api.ModeFile, Links: 1, Size: 133, Direct: [4]int{0, 4}}
	third := api.Dinode{Mode: api.ModeFile, Links: 1, Size: 513, Direct: [4]int{0, 4, 0, 5}, Single: 6}
	filled := third
	filled.Direct[2] = 8
	for at, c := range []struct {
		off   int
		bytes string
		steps []step
		ids   []int
	}{
		{130, "abc", []step{
			{1, 12, []byte{0x1f}, nil},
			{4, 0, noughts, []int{1}},
			{4, 0, append([]byte{0, 0, 'a', 'b', 'c'}, noughts[5:]...), nil}, // a new block: all its bytes
			{2, 96, dinode(t, file), []int{1, 2, 3}},
		}, []int{3, 4}},
		{131, "de", []step{{4, 3, []byte("de"), nil}}, []int{1}}, // nothing but bytes: no Put
		{511, "fg", []step{ // the last byte of a direct block, the first one of Single's first
			{1, 12, []byte{0x3f}, nil},
			{5, 0, noughts, []int{1}},
			{5, 0, append(slices.Clone(noughts[1:]), 'f'), nil},
			{1, 12, []byte{0x7f}, nil},
			{6, 0, noughts, []int{4}},
			{1, 12, []byte{0xff}, nil},
			{7, 0, noughts, []int{6}},
			{6, 0, []byte{7, 0}, []int{6, 7}},
			{7, 0, append([]byte{'g'}, noughts[1:]...), nil},
			{2, 96, dinode(t, third), []int{1, 2, 4, 5, 8, 3, 9}},
		}, []int{3, 9, 10}},
		{260, "h", []step{ // a hole is filled: the inode needs no bytes
			{1, 13, []byte{0x01}, nil},
			{8, 0, noughts, []int{1}},
			{8, 0, append([]byte{0, 0, 0, 0, 'h'}, noughts[5:]...), nil},
			{2, 96, dinode(t, filled), []int{1, 2}},
		}, []int{3, 4}},
	} {
		k := newBook(one)
		for _, earlier := range []struct {
			off   int
			bytes string
		}{{130, "abc"}, {131, "de"}, {511, "fg"}}[:min(at, 3)] {
			k.write(3, earlier.off, []byte(earlier.bytes))
		}
		agrees(t, k.anew(), func(v *volume.Volume) ([]int, api.Errno) {
			return Write(v, one, 3, c.off, []byte(c.bytes))
		}, func(k *book) ([]int, api.Errno) {
			for _, s := range c.steps {
				k.change(s.block, s.off, s.bytes, s.needs...)
			}
			return c.ids, api.OK
		})
	}
}

// stretches are places in a file, and how many bytes there are from them on:
// within a block, up to its end and across it, in and across Direct, Single
// and Double.
func stretches() [][2]int {
	return [][2]int{
		{0, 1}, {0, 127}, {0, 128}, {0, 129}, {1, 127}, {127, 1}, {127, 2}, {100, 300}, {128, 128}, {384, 128}, {384, 129},
		{511, 2}, {512, 1}, {512, 300}, {600, 200}, {67*128 + 5, 10}, {68*128 - 1, 1}, {68*128 - 1, 2}, {68 * 128, 1}, {69 * 128, 260},
		{132*128 - 1, 2}, {132*128 - 130, 300}, {200 * 128, 128}, {2000*128 + 3, 400}, {api.MaxFile - 1, 1}, {api.MaxFile - 300, 300},
	}
}

// TestP15_2Write: each stretch of an empty file, of one with holes, and of one
// in whose blocks it was written already.
func TestP15_2Write(t *testing.T) {
	for _, s := range stretches() {
		twice := holed(t)
		_, e := twice.write(3, s[0], letters(s[1]))
		answers(t, api.OK, e)
		for _, k := range []*book{newBook(two), holed(t), twice.anew()} {
			agrees(t, k, func(v *volume.Volume) ([]int, api.Errno) {
				return Write(v, two, 3, s[0], bytes.Repeat([]byte("xyz"), s[1])[:s[1]])
			}, func(k *book) ([]int, api.Errno) {
				return k.write(3, s[0], bytes.Repeat([]byte("xyz"), s[1])[:s[1]])
			})
		}
	}
}

// TestP15_2Behind: a write of a file of which nothing is on the disk yet.
func TestP15_2Behind(t *testing.T) {
	k := newBook(one)
	for _, s := range [][2]int{{10, 20}, {500, 100}, {68 * 128, 5}, {0, 140}} {
		_, e := k.write(3, s[0], letters(s[1]))
		answers(t, api.OK, e)
	}
	k.change(20, 5, []byte{1}, 1, 2)
	for _, s := range [][2]int{{10, 20}, {5, 300}, {550, 400}, {68*128 + 2, 200}} {
		agrees(t, k, func(v *volume.Volume) ([]int, api.Errno) { return Write(v, one, 3, s[0], letters(s[1])) },
			func(k *book) ([]int, api.Errno) { return k.write(3, s[0], letters(s[1])) })
	}
}

// TestP15_2Near: blocks come from the inode's group on.
func TestP15_2Near(t *testing.T) {
	for ino := 3; ino < 12; ino++ {
		k := newBook(small)
		k.put(ino, api.Dinode{Mode: api.ModeFile})
		agrees(t, k.anew(), func(v *volume.Volume) ([]int, api.Errno) { return Write(v, small, ino, 77, letters(900)) },
			func(k *book) ([]int, api.Errno) { return k.write(ino, 77, letters(900)) })
	}
}

// TestP15_2Nothing: without bytes nothing happens, wherever.
func TestP15_2Nothing(t *testing.T) {
	k := holed(t)
	d, v := open(t, k.now)
	for _, off := range []int{0, 5, 128, 4163*128 + 99, 4163*128 + 100, 4163*128 + 101, api.MaxFile} {
		stays(t, d, v, api.OK, askWrite(v, two, 3, off, nil), askWrite(v, two, 3, off, []byte{}))
	}
}

func TestP15_2Refuses(t *testing.T) {
	d, v := open(t, newBook(one).now)
	for _, b := range [][]byte{nil, {}, {1}, letters(500), make([]byte, api.MaxFile+1)} {
		for _, off := range wild() {
			want := api.ErrArg // ahead of ErrBig
			if off > 0 {
				want = api.ErrBig
			}
			stays(t, d, v, want, askWrite(v, one, 3, off, b))
		}
		stays(t, d, v, api.ErrBig, askWrite(v, one, 3, max(0, api.MaxFile-len(b)+1), b))
	}
	stays(t, d, v, api.ErrBig, askWrite(v, one, 3, 0, make([]byte, api.MaxFile+1)))
	stays(t, d, v, api.ErrSpace, askWrite(v, one, 3, 0, make([]byte, api.MaxFile))) // that may be, but for the room
	if ids, e := Write(v, one, 3, api.MaxFile-1, []byte{7}); len(ids) != 2 || e != api.OK {
		t.Fatal(ids, e)
	}
	if b, e := Read(v, one, 3, api.MaxFile-2, 9); !bytes.Equal(b, []byte{0, 7}) || e != api.OK {
		t.Fatal(b, e)
	}
}

// manyKinds has a file 3 with a block of each kind: 1, 5, 70. The blocks 0 to
// 71, from the fourth byte on, are the stretch that goes through all of them.
func manyKinds(t *testing.T) (*book, []byte) {
	t.Helper()
	k := newBook(big)
	for _, i := range []int{1, 5, 70} {
		_, e := k.write(3, i*128, letters(9))
		answers(t, api.OK, e)
	}
	return k.anew(), letters(72*128 - 3)
}

// TestP15_2Errors: of what it needs, each in turn can't be read, or can't be;
// then nothing has changed.
func TestP15_2Errors(t *testing.T) {
	k, stretch := manyKinds(t)
	ino := k.get(3)
	for _, b := range []int{ino.Single, ino.Double, k.at(ino.Double, 0), 1} {
		d, v := open(t, k.now)
		_, e := v.Change(300, 0, []byte{1}, nil)
		answers(t, api.OK, e)
		answers(t, api.OK, d.Fail(b, 1))
		stays(t, d, v, api.ErrIO, askWrite(v, big, 3, 3, stretch))
		if _, e := Write(v, big, 3, 3, stretch); e != api.OK { // it is read now
			t.Fatal(b, e)
		}
		broken := cloned(k.now)
		broken[b][127] = 0xff
		d, v = open(t, broken)
		stays(t, d, v, api.ErrForm, askWrite(v, big, 3, 3, stretch))
	}
}

// TestP15_2Outside: an address that the volume has not.
func TestP15_2Outside(t *testing.T) {
	k, stretch := manyKinds(t)
	ino := k.get(3)
	ino.Direct[3] = 512
	k.put(3, ino)
	d, v := open(t, k.now)
	stays(t, d, v, api.ErrBlock, askWrite(v, big, 3, 3, stretch), askWrite(v, big, 3, 400, []byte{1}))
}

// TestP15_2Frozen: a view that can't keep what a block had is an error, too.
func TestP15_2Frozen(t *testing.T) {
	k, stretch := manyKinds(t)
	for _, i := range []int{1, 5, 70} {
		d, v := open(t, k.now)
		answers(t, api.OK, v.Freeze(1000))
		answers(t, api.OK, d.Fail(k.addr(k.get(3), i), 1))
		if ids, e := Write(v, big, 3, 3, stretch); len(ids) != 0 || e != api.ErrIO || v.Last() != 0 || len(v.Dirty()) != 0 {
			t.Fatal(ids, e, v.Last())
		}
		if _, e := Write(v, big, 3, 3, stretch); e != api.OK {
			t.Fatal(e)
		}
	}
}

// TestP15_2Memory: what is handed in stays as it was, and is not kept; what is
// told is shared with nothing.
func TestP15_2Memory(t *testing.T) {
	k, stretch := manyKinds(t)
	d, v := open(t, k.now)
	room := append(slices.Clone(stretch), 1, 2, 3)
	ids, e := Write(v, big, 3, 3, room[:len(stretch)])
	answers(t, api.OK, e)
	if !bytes.Equal(room, append(slices.Clone(stretch), 1, 2, 3)) {
		t.Fatal("what was handed in has turned")
	}
	was := stateOf(d, v)
	clear(room)
	ids = ids[:cap(ids)]
	for i := range ids {
		ids[i] = 1 << 40
	}
	if is := stateOf(d, v); !reflect.DeepEqual(is, was) {
		t.Fatal("what is told is shared")
	}
	if b, e := Read(v, big, 3, 3, len(stretch)); !bytes.Equal(b, stretch) || e != api.OK {
		t.Fatal(e)
	}
	answers(t, api.OK, v.Sync([]int{v.Last()}))
	if b, e := Read(v, big, 3, 3, len(stretch)); !bytes.Equal(b, stretch) || e != api.OK {
		t.Fatal(e)
	}
}
