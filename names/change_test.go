package names

import (
	"bytes"
	"math"
	"reflect"
	"slices"
	"strings"
	"testing"

	"bollard/api"
	"bollard/dirs"
	"bollard/inode"
	"bollard/layout"
	"bollard/volume"
)

// raw is an entry's bytes.
func raw(t *testing.T, e api.Entry) []byte {
	t.Helper()
	b, why := layout.EncodeEntry(e)
	answers(t, api.OK, why)
	return b
}

func dinode(t *testing.T, d api.Dinode) []byte {
	t.Helper()
	b, why := layout.EncodeDinode(d)
	answers(t, api.OK, why)
	return b
}

// ahead are patches of blocks that nobody has (1 and 2), one of the superblock
// (3), two of the block in which the inodes 0 to 3 stand (4 and 5: of another
// inode), of which the last needs 2, and one of the next such block (6).
func ahead() []step {
	noughts := make([]byte, 32)
	return []step{
		{30, 0, []byte{1}, nil}, {31, 0, []byte{1}, nil}, {0, 9, []byte{1}, []int{1}},
		{2, 0, noughts, nil}, {2, 0, noughts, []int{2}}, {3, 96, noughts, []int{1}},
	}
}

// TestP16_2Add: at the first empty entry, behind what is needed, and behind
// what the directory's inode still has to write.
func TestP16_2Add(t *testing.T) {
	for _, c := range []struct {
		pages    [][]api.Entry
		page, at int
	}{
		{[][]api.Entry{{}}, 0, 0},
		{[][]api.Entry{dots(2, 2)}, 0, 2},
		{[][]api.Entry{append(dots(2, 2), api.Entry{}, entry(3, "b"))}, 0, 2},
		{[][]api.Entry{full("a")[:7]}, 0, 7},
		{[][]api.Entry{full("a"), full("b")[:3]}, 1, 3},
		{[][]api.Entry{full("a"), full("b"), {{}, entry(3, "c")}, {}}, 2, 0},
		{[][]api.Entry{full("a"), full("b"), full("c"), full("d"), full("e"), full("f")[:5]}, 5, 5},
	} {
		w := newWorld(one)
		blocks := w.dir(2, c.pages...)
		for _, e := range []api.Entry{entry(1, "new"), entry(511, "abcdefghijklm"), entry(3, "!")} {
			agrees(t, w.image, ahead(), []step{{blocks[c.page], c.at * 16, raw(t, e), []int{1, 3, 4, 5}}},
				func(v *volume.Volume) (int, api.Errno) { return Add(v, one, 2, e, []int{3, 1}) })
			agrees(t, w.image, nil, []step{{blocks[c.page], c.at * 16, raw(t, e), nil}},
				func(v *volume.Volume) (int, api.Errno) { return Add(v, one, 2, e, nil) })
		}
	}
}

// TestP16_2AddDots: these two are entries as others are.
func TestP16_2AddDots(t *testing.T) {
	w := newWorld(one)
	blocks := w.dir(5, []api.Entry{{}, entry(3, "a")})
	agrees(t, w.image, nil, []step{{blocks[0], 0, raw(t, entry(2, "..")), nil}},
		func(v *volume.Volume) (int, api.Errno) { return Add(v, one, 5, entry(2, ".."), nil) })
}

// TestP16_2Extend: without an empty entry the directory gets a block. In the
// geometry one the blocks of data begin at 4.
func TestP16_2Extend(t *testing.T) {
	e := entry(7, "new")
	page, _ := dirs.Encode([]api.Entry{e})
	noughts := make([]byte, 128)

	w := newWorld(one) // a directory without blocks
	w.dir(2)
	d := api.Dinode{Mode: api.ModeDir, Links: 2, Size: 128, Direct: [4]int{4}}
	agrees(t, w.image, ahead(), []step{
		{1, 12, []byte{0x1f}, nil},
		{4, 0, noughts, []int{7}},
		{4, 0, page, []int{1, 3}},
		{2, 64, dinode(t, d), []int{7, 8, 9}},
	}, func(v *volume.Volume) (int, api.Errno) { return Add(v, one, 2, e, []int{1, 3}) })

	w = newWorld(one)
	w.dir(6, full("a"), full("b")) // in the blocks 4 and 5; the inode is in block 3
	d = api.Dinode{Mode: api.ModeDir, Links: 2, Size: 3 * 128, Direct: [4]int{4, 5, 6}}
	agrees(t, w.image, ahead()[:5], []step{
		{1, 12, []byte{0x7f}, nil},
		{6, 0, noughts, []int{6}},
		{6, 0, page, nil},
		{3, 64, dinode(t, d), []int{6, 7, 8}},
	}, func(v *volume.Volume) (int, api.Errno) { return Add(v, one, 6, e, nil) })

	w = newWorld(one)
	w.dir(2, full("a"), full("b"), full("c"), full("d")) // the next one is Single's: 8, and 9 in it
	d = api.Dinode{Mode: api.ModeDir, Links: 2, Size: 5 * 128, Direct: [4]int{4, 5, 6, 7}, Single: 8}
	agrees(t, w.image, ahead(), []step{
		{1, 13, []byte{0x01}, nil},
		{8, 0, noughts, []int{7}},
		{1, 13, []byte{0x03}, nil},
		{9, 0, noughts, []int{9}},
		{8, 0, []byte{9, 0}, []int{9, 10}},
		{9, 0, page, []int{2}},
		{2, 64, dinode(t, d), []int{7, 8, 11, 12}},
	}, func(v *volume.Volume) (int, api.Errno) { return Add(v, one, 2, e, []int{2}) })

	w = newWorld(one)
	w.dir(2, full("a"), full("b"), full("c"), full("d"), full("e")) // 4 to 8, and the indirect one is 9
	d = api.Dinode{Mode: api.ModeDir, Links: 2, Size: 6 * 128, Direct: [4]int{4, 5, 6, 7}, Single: 9}
	agrees(t, w.image, nil, []step{
		{1, 13, []byte{0x07}, nil},
		{10, 0, noughts, []int{1}},
		{9, 2, []byte{10, 0}, []int{1, 2}},
		{10, 0, page, nil},
		{2, 64, dinode(t, d), []int{3, 4}},
	}, func(v *volume.Volume) (int, api.Errno) { return Add(v, one, 2, e, nil) })
}

// TestP16_2ExtendBlockThere: behind the size there is a block already: all its
// bytes are the entry's page.
func TestP16_2ExtendBlockThere(t *testing.T) {
	e := entry(7, "new")
	page, _ := dirs.Encode([]api.Entry{e})
	w := newWorld(one)
	w.dir(2, full("a"), full("b"))
	d := api.Dinode{Mode: api.ModeDir, Links: 2, Size: 128, Direct: [4]int{4, 5}}
	w.put(2, d)
	d.Size = 256
	agrees(t, w.image, ahead(), []step{{5, 0, page, []int{6}}, {2, 64, dinode(t, d), []int{7}}},
		func(v *volume.Volume) (int, api.Errno) { return Add(v, one, 2, e, []int{6}) })
}

// TestP16_2AddRefuses: which errors come ahead of which.
func TestP16_2AddRefuses(t *testing.T) {
	w := newWorld(one)
	w.dir(2, append(dots(2, 2), full("a")[:5]...), full("b"), append(full("c")[:7], entry(4, "last")))
	d, v := opened(t, w.image)
	wrong := []api.Entry{{}, entry(0, "x"), entry(0, "a1"), entry(3, ""), entry(3, "a/b"), entry(3, "/"), entry(3, " "), entry(3, "abcdefghijklmn"), entry(3, "é"), entry(3, strings.Repeat("n", 1<<16))}
	for _, ino := range wild() {
		wrong = append(wrong, entry(ino, "x"), entry(ino, "a1"), entry(ino, "."))
	}
	for _, e := range wrong { // ahead of ErrExists
		stays(t, d, v, api.ErrArg, askAdd(v, one, 2, e), askAdd(v, one, 2, e, 99))
	}
	for _, name := range []string{".", "..", "a1", "b0", "c6", "last"} { // though the first block has room
		stays(t, d, v, api.ErrExists, askAdd(v, one, 2, entry(3, name)), askAdd(v, one, 2, entry(511, name), -1))
	}
	for _, need := range append(wild(), 0, 1) {
		stays(t, d, v, api.ErrPatch, askAdd(v, one, 2, entry(3, "new"), need))
	}
	w.dir(2, full("a")) // in which there is no room
	d, v = opened(t, w.image)
	for _, e := range wrong {
		stays(t, d, v, api.ErrArg, askAdd(v, one, 2, e), askAdd(v, one, 2, e, 99))
	}
	stays(t, d, v, api.ErrExists, askAdd(v, one, 2, entry(3, "a7"), 99))
	for _, need := range append(wild(), 0, 99) {
		stays(t, d, v, api.ErrPatch, askAdd(v, one, 2, entry(3, "new"), need))
	}
}

// TestP16_2NoNeeds: the numbers of the page's own patch, and of the inode's
// behind it, are no needs.
func TestP16_2NoNeeds(t *testing.T) {
	w := newWorld(one)
	w.dir(2, full("a"))
	d, v := opened(t, w.image)
	stays(t, d, v, api.ErrPatch, askAdd(v, one, 2, entry(3, "new"), 3), askAdd(v, one, 2, entry(3, "new"), 4))
}

// TestP16_2Space: without room for a block all is as it was; a name that is
// there is told ahead of that.
func TestP16_2Space(t *testing.T) {
	for _, pages := range [][][]api.Entry{nil, {full("a")}, {full("a"), full("b"), full("c"), full("d")}, {full("a"), full("b"), full("c"), full("d"), full("e")}} {
		needs := 1
		if len(pages) == 4 {
			needs = 2 // with Single
		}
		for left := range needs + 1 {
			w := newWorld(three)
			w.dir(2, pages...)
			taken := len(pages) + len(pages)/5
			for range 15 - taken - left {
				w.take(nil)
			}
			d, v := opened(t, w.image)
			_, e := v.Change(0, 0, []byte{1}, nil)
			answers(t, api.OK, e)
			if left == needs {
				if _, e := Add(v, three, 2, entry(3, "new"), nil); e != api.OK {
					t.Fatal(e)
				}
				continue
			}
			stays(t, d, v, api.ErrSpace, askAdd(v, three, 2, entry(3, "new")), askAdd(v, three, 2, entry(3, "new"), 1))
			if len(pages) > 0 {
				stays(t, d, v, api.ErrExists, askAdd(v, three, 2, entry(3, "a3")))
			}
			stays(t, d, v, api.ErrArg, askAdd(v, three, 2, entry(3, "")))
		}
	}
}

// greatest is a directory of MaxFile bytes: all its addresses lead to one block
// of entries.
func greatest(page []api.Entry) *world {
	w := newWorld(one)
	block := w.dir(2, page)[0]
	fan := func(address int) int {
		b, _ := layout.EncodeFan(slices.Repeat([]int{address}, api.Fan))
		return w.take(b)
	}
	d := api.Dinode{Mode: api.ModeDir, Links: 2, Size: api.MaxFile, Direct: [4]int{block, block, block, block}, Single: fan(block)}
	d.Double = fan(d.Single)
	w.put(2, d)
	return w
}

// TestP16_2Big: ErrBig of a directory of MaxFile bytes that has no empty entry;
// one block below that it gets a block.
func TestP16_2Big(t *testing.T) {
	w := greatest(full("a"))
	d, v := opened(t, w.image)
	stays(t, d, v, api.ErrBig, askAdd(v, one, 2, entry(3, "new")), askAdd(v, one, 2, entry(3, "new"), 99))
	stays(t, d, v, api.ErrExists, askAdd(v, one, 2, entry(3, "a0")))
	stays(t, d, v, api.ErrArg, askAdd(v, one, 2, entry(0, "a0")))
	_, v = opened(t, greatest(full("a")[:7]).image)
	if id, e := Add(v, one, 2, entry(3, "new"), nil); id != 1 || e != api.OK {
		t.Fatal(id, e)
	}
	ino, e := inode.Get(v, one, 2)
	answers(t, api.OK, e)
	ino.Size -= api.Size
	w.put(2, ino)
	_, v = opened(t, w.image)
	if id, e := Add(v, one, 2, entry(3, "new"), nil); id != 2 || e != api.OK { // the block is there: its page, and the inode
		t.Fatal(id, e)
	}
	if ino, e := inode.Get(v, one, 2); ino.Size != api.MaxFile || e != api.OK {
		t.Fatal(ino, e)
	}
}

// TestP16_2TakenBack: a header that can't be read, or can't be, behind blocks
// that were given; a view that can't keep what a block had.
func TestP16_2TakenBack(t *testing.T) {
	w := newWorld(three)
	w.dir(2, full("a"), full("b"), full("c"), full("d")) // 3 to 6: of group 0 just 7 is free, and two are needed
	d, v := opened(t, w.image)
	answers(t, api.OK, d.Fail(9, 1))
	stays(t, d, v, api.ErrIO, askAdd(v, three, 2, entry(3, "new")))
	if _, e := Add(v, three, 2, entry(3, "new"), nil); e != api.OK {
		t.Fatal(e)
	}
	for b, want := range map[int]api.Errno{7: api.ErrIO, 11: api.ErrIO} { // the two that are given
		d, v := opened(t, w.image)
		answers(t, api.OK, v.Freeze(100))
		answers(t, api.OK, d.Fail(b, 1))
		if id, e := Add(v, three, 2, entry(3, "new"), nil); id != 0 || e != want || v.Last() != 0 || len(v.Dirty()) != 0 {
			t.Fatal(b, id, e)
		}
	}
	w.image[9][0]++
	d, v = opened(t, w.image)
	stays(t, d, v, api.ErrMagic, askAdd(v, three, 2, entry(3, "new")))
}

// spread is a directory of several blocks.
func spread() (*world, []int) {
	w := newWorld(one)
	blocks := w.dir(2, append(dots(2, 2), api.Entry{}, entry(3, "b")), full("x"), nil, []api.Entry{{}, entry(4, "z")}, full("y"))
	return w, blocks
}

// TestP16_2Remove: the entry's bytes are noughts, behind what is needed, and
// behind nothing else.
func TestP16_2Remove(t *testing.T) {
	w, blocks := spread()
	noughts := make([]byte, 16)
	for name, at := range map[string][2]int{".": {0, 0}, "..": {0, 1}, "b": {0, 3}, "x0": {1, 0}, "x7": {1, 7}, "z": {3, 1}, "y4": {4, 4}} {
		agrees(t, w.image, ahead(), []step{{blocks[at[0]], at[1] * 16, noughts, []int{1, 6}}},
			func(v *volume.Volume) (int, api.Errno) { return Remove(v, one, 2, name, []int{6, 1}) })
		agrees(t, w.image, ahead(), []step{{blocks[at[0]], at[1] * 16, noughts, nil}},
			func(v *volume.Volume) (int, api.Errno) { return Remove(v, one, 2, name, nil) })
	}
	d, v := opened(t, w.image)
	for _, name := range []string{"", "a", "x8", "x", "b/", "abcdefghijklmn", strings.Repeat("x", 1<<16)} {
		stays(t, d, v, api.ErrAbsent, askRemove(v, one, 2, name), askRemove(v, one, 2, name, 99))
	}
	for _, need := range append(wild(), 0, 1) {
		stays(t, d, v, api.ErrPatch, askRemove(v, one, 2, "y4", need))
	}
}

// TestP16_2Set: the entry with another inode, behind what is needed, and behind
// what the directory's inode still has to write.
func TestP16_2Set(t *testing.T) {
	w, blocks := spread()
	for name, at := range map[string][2]int{".": {0, 0}, "..": {0, 1}, "b": {0, 3}, "x0": {1, 0}, "x7": {1, 7}, "z": {3, 1}, "y4": {4, 4}} {
		for _, ino := range []int{1, 3, 511} {
			agrees(t, w.image, ahead(), []step{{blocks[at[0]], at[1] * 16, raw(t, entry(ino, name)), []int{3, 4, 5}}},
				func(v *volume.Volume) (int, api.Errno) { return Set(v, one, 2, name, ino, []int{3, 3}) })
			agrees(t, w.image, nil, []step{{blocks[at[0]], at[1] * 16, raw(t, entry(ino, name)), nil}},
				func(v *volume.Volume) (int, api.Errno) { return Set(v, one, 2, name, ino, nil) })
		}
	}
	d, v := opened(t, w.image)
	for _, ino := range append(wild(), 0) {
		for _, name := range []string{"", "a", "x8", "b/", "abcdefghijklmn"} { // ahead of ErrArg
			stays(t, d, v, api.ErrAbsent, askSet(v, one, 2, name, ino), askSet(v, one, 2, name, 3, 99))
		}
		stays(t, d, v, api.ErrArg, askSet(v, one, 2, "y4", ino), askSet(v, one, 2, "y4", ino, 99))
	}
	for _, need := range append(wild(), 0, 1) {
		stays(t, d, v, api.ErrPatch, askSet(v, one, 2, "y4", 3, need))
	}
}

// TestP16_2Behind: an entry that is put into a block, while the size that has
// that block is not on the disk yet, waits for that.
func TestP16_2Behind(t *testing.T) {
	w := newWorld(one)
	w.dir(2, full("a"))
	d, v := opened(t, w.image)
	put, e := Add(v, one, 2, entry(3, "new"), nil)
	answers(t, api.OK, e)
	next, e := Add(v, one, 2, entry(4, "next"), nil)
	answers(t, api.OK, e)
	for len(v.Ready()) > 0 {
		b := v.Ready()[len(v.Ready())-1]
		answers(t, api.OK, v.Write(b))
		answers(t, api.OK, v.Complete(0, true))
		if v.IsDone(next) && !v.IsDone(put) {
			t.Fatal("an entry is beyond the size that is on the disk")
		}
	}
	if !v.IsDone(next) || !bytes.Equal(d.Image()[5][16:32], raw(t, entry(4, "next"))) {
		t.Fatal("it never came to the disk")
	}
}

// TestP16_2Memory: what is handed in stays as it was, and is not kept.
func TestP16_2Memory(t *testing.T) {
	w, _ := spread()
	for _, call := range []func(v *volume.Volume, needs []int) (int, api.Errno){
		func(v *volume.Volume, needs []int) (int, api.Errno) { return Add(v, one, 2, entry(3, "new"), needs) },
		func(v *volume.Volume, needs []int) (int, api.Errno) { return Remove(v, one, 2, "b", needs) },
		func(v *volume.Volume, needs []int) (int, api.Errno) { return Set(v, one, 2, "b", 9, needs) },
		func(v *volume.Volume, needs []int) (int, api.Errno) { return Add(v, one, 5, entry(3, "new"), needs) },
	} {
		w.dir(5, full("a"))
		d, v := opened(t, w.image)
		replay(t, v, ahead())
		room := []int{3, 1, math.MinInt, math.MaxInt}
		_, e := call(v, room[:2])
		answers(t, api.OK, e)
		if !slices.Equal(room, []int{3, 1, math.MinInt, math.MaxInt}) {
			t.Fatal("what was handed in has turned:", room)
		}
		was := stateOf(d, v)
		clear(room)
		if is := stateOf(d, v); !reflect.DeepEqual(is, was) {
			t.Fatal("what was handed in is kept")
		}
	}
}
