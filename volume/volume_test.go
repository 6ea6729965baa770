package volume

import (
	"bytes"
	"math"
	"reflect"
	"slices"
	"testing"

	"bollard/api"
	"bollard/disk"
)

// full is a block whose bytes are all x.
func full(x byte) []byte {
	return bytes.Repeat([]byte{x}, api.Size)
}

// with is a block whose bytes are all x, but for those from a place on.
func with(x byte, off int, put ...byte) []byte {
	b := full(x)
	copy(b[off:], put)
	return b
}

// fresh is a volume over a disk whose block b has all bytes b.
func fresh(t *testing.T, blocks, buffers int) (*disk.Disk, *Volume) {
	t.Helper()
	image := make([][]byte, blocks)
	for b := range image {
		image[b] = full(byte(b))
	}
	d, e := disk.Of(image)
	answers(t, api.OK, e)
	v, e := Open(d, buffers)
	if e != api.OK || v == nil {
		t.Fatalf("Open(%d): %v", buffers, e)
	}
	return d, v
}

func answers(t *testing.T, want, got api.Errno) {
	t.Helper()
	if got != want {
		t.Fatalf("%v, want %v", got, want)
	}
}

func same(t *testing.T, what string, got []int, want ...int) {
	t.Helper()
	if !slices.Equal(got, want) {
		t.Fatalf("%s: %v, want %v", what, got, want)
	}
}

// change fails unless the patch has that number.
func change(t *testing.T, v *Volume, id, b, off int, x byte, needs ...int) {
	t.Helper()
	if got, e := v.Change(b, off, []byte{x}, needs); got != id || e != api.OK {
		t.Fatalf("Change(%d, %d): %d, %v; want %d", b, off, got, e, id)
	}
}

func write(t *testing.T, v *Volume, blocks ...int) {
	t.Helper()
	for _, b := range blocks {
		if e := v.Write(b); e != api.OK {
			t.Fatalf("Write(%d): %v", b, e)
		}
	}
}

func reads(t *testing.T, v *Volume, b int, want []byte) {
	t.Helper()
	if got, e := v.Read(b); e != api.OK || !bytes.Equal(got, want) {
		t.Fatalf("Read(%d): %x, %v; want %x", b, got, e, want)
	}
}

func olds(t *testing.T, v *Volume, b int, want []byte) {
	t.Helper()
	if got, e := v.Old(b); e != api.OK || !bytes.Equal(got, want) {
		t.Fatalf("Old(%d): %x, %v; want %x", b, got, e, want)
	}
}

// onDisk fails unless the disk has those bytes.
func onDisk(t *testing.T, d *disk.Disk, b int, want []byte) {
	t.Helper()
	if got := d.Image()[b]; !bytes.Equal(got, want) {
		t.Fatalf("block %d on the disk: %x, want %x", b, got, want)
	}
}

// left is how many reads of a block fail still. It asks a copy, as asking uses
// failures up.
func left(d *disk.Disk, b int) int {
	d = d.Copy()
	for n := 0; ; n++ {
		if _, e := d.Read(b); e != api.ErrIO {
			return n
		}
	}
}

// wrong are numbers of blocks that a volume of so many has not.
func wrong(blocks int) []int {
	return []int{math.MinInt, math.MinInt32, -2, -1, blocks, blocks + 1, math.MaxInt32, math.MaxInt}
}

// told is all that a volume tells, or could tell later.
type told struct {
	dirty, ready, way    []int
	pending              [][]int
	done                 []bool
	last, kept           int
	frozen, broken       bool
	image, now, old      [][]byte
	queue                []api.Sent
	fails                []int
	patchesOfWritesOnWay [][]int
}

// tell looks behind the face, where a read would take a buffer.
func tell(v *Volume) told {
	out := told{
		dirty: v.Dirty(), ready: v.Ready(), way: v.Way(),
		last: v.Last(), kept: v.Kept(), frozen: v.view != nil, broken: v.Broken(),
		image: v.disk.Image(), queue: v.disk.Queue(),
	}
	for b, bytes := range out.image {
		now, _ := v.patches.Now(b, bytes)
		out.now = append(out.now, now)
		out.pending = append(out.pending, v.Pending(b))
		out.fails = append(out.fails, left(v.disk, b))
		out.patchesOfWritesOnWay = append(out.patchesOfWritesOnWay, slices.Clone(v.way[b].patches))
		if v.view != nil {
			out.old = append(out.old, slices.Clone(v.view.kept[b]))
		}
	}
	for id := range out.last + 3 {
		out.done = append(out.done, v.IsDone(id-1))
	}
	return out
}

// stays fails unless a call answers that number, and leaves the volume as it
// was.
func stays(t *testing.T, v *Volume, want api.Errno, call func() api.Errno) {
	t.Helper()
	was := tell(v)
	answers(t, want, call())
	if is := tell(v); !reflect.DeepEqual(is, was) {
		t.Fatalf("the call has changed the volume: %v, was %v", is, was)
	}
}

// refuses is stays of Change.
func refuses(t *testing.T, v *Volume, want api.Errno, b, off int, put []byte, needs []int) {
	t.Helper()
	stays(t, v, want, func() api.Errno {
		id, e := v.Change(b, off, put, needs)
		if id != 0 {
			t.Fatalf("Change(%d, %d): %d beside %v", b, off, id, e)
		}
		return e
	})
}

// noBlock is a call's answer as an error alone; it fails if there are bytes
// beside an error.
func noBlock(t *testing.T, call func(b int) ([]byte, api.Errno), b int) func() api.Errno {
	t.Helper()
	return func() api.Errno {
		got, e := call(b)
		if len(got) != 0 {
			t.Fatalf("%x beside %v", got, e)
		}
		return e
	}
}

func TestP9_1Open(t *testing.T) {
	d, _ := disk.New(3)
	for _, buffers := range []int{1, 2, api.MaxCache - 1, api.MaxCache} {
		v, e := Open(d, buffers)
		if e != api.OK || v == nil {
			t.Fatalf("Open(%d): %v", buffers, e)
		}
		if v.Blocks() != 3 || v.Last() != 0 || v.Kept() != 0 || v.Broken() {
			t.Fatal("it is not new")
		}
		same(t, "dirty", v.Dirty())
		same(t, "ready", v.Ready())
		same(t, "way", v.Way())
		for b := range 3 {
			same(t, "pending", v.Pending(b))
			reads(t, v, b, full(0))
		}
	}
}

func TestP9_1OpenRefuses(t *testing.T) {
	d, _ := disk.New(3)
	for _, buffers := range []int{math.MinInt, -1, 0, api.MaxCache + 1, math.MaxInt} {
		if v, e := Open(d, buffers); v != nil || e != api.ErrArg {
			t.Fatalf("Open(%d): %v, %v", buffers, v, e)
		}
	}
	for _, none := range []*disk.Disk{nil, {}} {
		for _, buffers := range []int{-1, 0, 1, api.MaxCache, api.MaxCache + 1} { // ErrNil comes first
			if v, e := Open(none, buffers); v != nil || e != api.ErrNil {
				t.Fatalf("Open(none, %d): %v, %v", buffers, v, e)
			}
		}
	}
}

func TestP9_1Blocks(t *testing.T) {
	for _, blocks := range []int{1, 2, 64, api.MaxDisk} {
		if _, v := fresh(t, blocks, 1); v.Blocks() != blocks {
			t.Fatalf("%d blocks, want %d", v.Blocks(), blocks)
		}
	}
}

func TestP9_1Read(t *testing.T) {
	_, v := fresh(t, 4, 2)
	for b := range 4 {
		reads(t, v, b, full(byte(b)))
	}
	change(t, v, 1, 3, 0, 9)
	change(t, v, 2, 3, api.Size-1, 8)
	change(t, v, 3, 3, 0, 7)
	reads(t, v, 3, with(3, 0, append([]byte{7}, append(bytes.Repeat([]byte{3}, api.Size-2), 8)...)...))
	reads(t, v, 2, full(2))
	for _, b := range wrong(4) {
		stays(t, v, api.ErrBlock, noBlock(t, v.Read, b))
	}
}

func TestP9_1ReadFails(t *testing.T) {
	d, v := fresh(t, 3, 2)
	change(t, v, 1, 0, 0, 9)
	d.Fail(0, 2)
	for range 2 {
		answers(t, api.ErrIO, noBlock(t, v.Read, 0)())
	}
	reads(t, v, 0, with(0, 0, 9))
	d.Fail(0, 1)
	reads(t, v, 0, with(0, 0, 9)) // from its buffer
	reads(t, v, 1, full(1))
	reads(t, v, 2, full(2)) // block 0 was used longest ago: it has no buffer now
	answers(t, api.ErrIO, noBlock(t, v.Read, 0)())
}

func TestP9_2Change(t *testing.T) {
	d, v := fresh(t, 4, 2)
	was := d.Image()
	id, e := v.Change(3, 0, full(9), nil) // a whole block
	if id != 1 || e != api.OK || v.Last() != 1 {
		t.Fatal(id, e, v.Last())
	}
	change(t, v, 2, 3, api.Size-1, 8, 1, 1)
	change(t, v, 3, 0, 0, 7, 2, 1)
	reads(t, v, 3, with(9, api.Size-1, 8))
	reads(t, v, 0, with(0, 0, 7))
	if v.Last() != 3 || !reflect.DeepEqual(d.Image(), was) || len(d.Queue()) != 0 {
		t.Fatal("a change alone gets nothing to the disk")
	}
	same(t, "pending", v.Pending(3), 1, 2)
	same(t, "pending", v.Pending(0), 3)
	same(t, "ready", v.Ready(), 3)
}

func TestP9_2ChangeRefuses(t *testing.T) {
	_, v := fresh(t, 4, 2)
	change(t, v, 1, 0, 0, 9)
	for _, b := range wrong(4) {
		refuses(t, v, api.ErrBlock, b, 0, []byte{1}, nil)
		refuses(t, v, api.ErrBlock, b, -1, nil, []int{99}) // ahead of what patch tells
	}
	for _, off := range []int{math.MinInt, -1, api.Size, api.Size + 1, math.MaxInt} {
		refuses(t, v, api.ErrArg, 1, off, []byte{1}, nil)
		refuses(t, v, api.ErrArg, 1, off, []byte{1}, []int{99})
	}
	refuses(t, v, api.ErrArg, 1, 0, nil, nil)
	refuses(t, v, api.ErrArg, 1, 0, []byte{}, nil)
	refuses(t, v, api.ErrArg, 1, 1, full(1), nil)
	refuses(t, v, api.ErrArg, 1, 0, append(full(1), 1), nil)
	for _, need := range []int{math.MinInt, -1, 0, 2, math.MaxInt} {
		refuses(t, v, api.ErrPatch, 1, 0, []byte{1}, []int{1, need})
	}
}

// TestP9_2ChangeReadsWhereItMust: a block is read just where its bytes are to
// be kept, and then first of all.
func TestP9_2ChangeReadsWhereItMust(t *testing.T) {
	d, v := fresh(t, 6, 1)
	d.Fail(0, 1)
	change(t, v, 1, 0, 0, 9) // not frozen: it is not read
	answers(t, api.OK, v.Freeze(1))
	d.Fail(1, 3)
	for _, e := range []func(){
		func() { answersChange(t, v, api.ErrIO, 1, 0, []byte{1}, nil) },
		func() { answersChange(t, v, api.ErrIO, 1, -1, nil, nil) },
		func() { answersChange(t, v, api.ErrIO, 1, 0, []byte{1}, []int{99}) },
	} {
		was := left(d, 1)
		e()
		if left(d, 1) != was-1 || v.Kept() != 0 || v.Last() != 1 {
			t.Fatal("a change that could not read its block")
		}
	}
	change(t, v, 2, 1, 0, 8)
	reads(t, v, 5, full(5)) // block 1 has no buffer now
	d.Fail(1, 1)
	change(t, v, 3, 1, 0, 7) // kept already: it is not read
	if left(d, 1) != 1 || v.Kept() != 1 || v.Broken() {
		t.Fatal("a block that is kept was read")
	}
	d.Fail(2, 1)
	answersChange(t, v, api.ErrIO, 2, 0, []byte{1}, nil) // no room, and read all the same
	if v.Broken() {
		t.Fatal("it was broken by a change that was refused")
	}
	change(t, v, 4, 2, 0, 6)
	if !v.Broken() {
		t.Fatal("no room, and not broken")
	}
	d.Fail(3, 1)
	change(t, v, 5, 3, 0, 5) // broken: it is not read
	if left(d, 3) != 1 {
		t.Fatal("a block was read for a view that is broken")
	}
}

func answersChange(t *testing.T, v *Volume, want api.Errno, b, off int, put []byte, needs []int) {
	t.Helper()
	if id, e := v.Change(b, off, put, needs); id != 0 || e != want {
		t.Fatalf("Change(%d, %d): %d, %v; want %v", b, off, id, e, want)
	}
}

func TestP9_2Undo(t *testing.T) {
	_, v := fresh(t, 4, 4)
	change(t, v, 1, 3, 0, 9)
	was := tell(v)
	change(t, v, 2, 3, 0, 8)
	change(t, v, 3, 2, 0, 7, 2)
	for _, last := range []int{math.MinInt, -1, 4, math.MaxInt} {
		stays(t, v, api.ErrArg, func() api.Errno { return v.Undo(last) })
	}
	stays(t, v, api.OK, func() api.Errno { return v.Undo(3) })
	answers(t, api.OK, v.Undo(1))
	if is := tell(v); !reflect.DeepEqual(is, was) {
		t.Fatalf("%v, was %v", is, was)
	}
	answers(t, api.OK, v.Sync([]int{1}))
	change(t, v, 2, 3, 0, 6) // its number is given again
	stays(t, v, api.ErrState, func() api.Errno { return v.Undo(0) })
	answers(t, api.OK, v.Undo(1))
	reads(t, v, 3, with(3, 0, 9))
}

func TestP9_2UndoKeepsWhatIsKept(t *testing.T) {
	_, v := fresh(t, 4, 4)
	change(t, v, 1, 3, 0, 9)
	answers(t, api.OK, v.Freeze(1))
	change(t, v, 2, 3, 0, 8)
	answers(t, api.OK, v.Undo(1))
	if v.Kept() != 1 {
		t.Fatal("what was kept is gone")
	}
	olds(t, v, 3, with(3, 0, 9))
	change(t, v, 2, 2, 0, 7)
	answers(t, api.OK, v.Undo(1))
	if !v.Broken() || v.Kept() != 1 {
		t.Fatal("broken stays so")
	}
}

// TestP9_2UndoOfWhatIsOnTheWay: a number that is given again is not done by the
// write that had the patch of that number which was taken back.
func TestP9_2UndoOfWhatIsOnTheWay(t *testing.T) {
	d, v := fresh(t, 4, 4)
	change(t, v, 1, 3, 0, 9)
	change(t, v, 2, 3, 1, 8)
	write(t, v, 3)
	answers(t, api.OK, v.Undo(1))
	same(t, "way", v.Way(), 3)
	change(t, v, 2, 2, 0, 7)
	answers(t, api.OK, v.Complete(0, true))
	onDisk(t, d, 3, with(3, 0, 9, 8)) // as it was sent
	if !v.IsDone(1) || v.IsDone(2) {
		t.Fatal("just the first patch was done")
	}
	reads(t, v, 2, with(2, 0, 7))
	same(t, "dirty", v.Dirty(), 2)
	change(t, v, 3, 3, 0, 6)
	write(t, v, 3)
	answers(t, api.OK, v.Undo(2))
	same(t, "ready", v.Ready(), 2)
	answers(t, api.ErrState, v.Write(3)) // on the way, and nothing to write
	answers(t, api.OK, v.Complete(0, true))
	answers(t, api.ErrNone, v.Write(3))
}

func TestP9_3DirtyPendingReadyWay(t *testing.T) {
	d, v := fresh(t, 9, 2)
	change(t, v, 1, 7, 0, 1)
	change(t, v, 2, 2, 0, 1, 1)
	change(t, v, 3, 5, 0, 1)
	change(t, v, 4, 7, 0, 2, 2)
	for b := range 9 {
		d.Fail(b, 1) // none of these reads
	}
	same(t, "dirty", v.Dirty(), 2, 5, 7)
	same(t, "ready", v.Ready(), 5, 7)
	same(t, "pending", v.Pending(7), 1, 4)
	same(t, "pending", v.Pending(0))
	for _, b := range wrong(9) {
		same(t, "pending", v.Pending(b))
	}
	if left(d, 7) != 1 || left(d, 5) != 1 {
		t.Fatal("blocks were read")
	}
	for b := range 9 {
		d.Fail(b, 0)
	}
	write(t, v, 7, 5)
	same(t, "way", v.Way(), 7, 5) // as they were sent
	same(t, "ready", v.Ready())
	same(t, "dirty", v.Dirty(), 2, 5, 7)
	same(t, "pending", v.Pending(7), 1, 4)
	answers(t, api.OK, v.Complete(0, true))
	same(t, "way", v.Way(), 5)
	same(t, "ready", v.Ready(), 2)
	same(t, "pending", v.Pending(7), 4)
	answers(t, api.OK, v.Complete(0, true))
	same(t, "dirty", v.Dirty(), 2, 7)
	write(t, v, 2)
	answers(t, api.OK, v.Complete(0, true))
	same(t, "ready", v.Ready(), 7)
}

// TestMemory scribbles over what was handed in, and over what was answered.
func TestMemory(t *testing.T) {
	_, v := fresh(t, 4, 4)
	change(t, v, 1, 1, 0, 5)
	answers(t, api.OK, v.Freeze(4))
	put := append(make([]byte, 0, 8), 9, 8)
	needs := append(make([]int, 0, 8), 1, 1)
	if _, e := v.Change(3, 0, put, needs); e != api.OK {
		t.Fatal(e)
	}
	if !bytes.Equal(put[:8], []byte{9, 8, 0, 0, 0, 0, 0, 0}) || !slices.Equal(needs[:8], []int{1, 1, 0, 0, 0, 0, 0, 0}) {
		t.Fatal("what was handed in was changed")
	}
	scribble(put)
	scribble(needs)
	was := tell(v)
	for range 2 {
		for _, call := range []func(int) ([]byte, api.Errno){v.Read, v.Old} {
			for _, b := range []int{1, 3} {
				got, e := call(b)
				answers(t, api.OK, e)
				scribble(got)
			}
		}
		scribble(v.Dirty())
		scribble(v.Pending(3))
		scribble(v.Ready())
		scribble(v.Way())
		if is := tell(v); !reflect.DeepEqual(is, was) {
			t.Fatalf("answers share memory with the volume: %v, was %v", is, was)
		}
		write(t, v, 1)
		was = tell(v)
		scribble(v.Way())
		if is := tell(v); !reflect.DeepEqual(is, was) {
			t.Fatal("Way shares memory with the volume")
		}
		answers(t, api.ErrIO, v.Complete(0, false))
		was = tell(v)
	}
	ids := append(make([]int, 0, 8), 2, 1, 2)
	answers(t, api.OK, v.Sync(ids))
	if !slices.Equal(ids[:8], []int{2, 1, 2, 0, 0, 0, 0, 0}) {
		t.Fatal("what was handed to Sync was changed")
	}
	reads(t, v, 3, with(3, 0, 9, 8))
}

// scribble overwrites a list, and the room behind its end.
func scribble[T int | byte](list []T) {
	list = list[:cap(list)]
	for i := range list {
		list[i] = 77
	}
}

// TestNone: a volume that no call made.
func TestNone(t *testing.T) {
	for _, v := range []*Volume{nil, {}} {
		if v.Blocks() != 0 || v.Last() != 0 || v.Kept() != 0 || v.Broken() || v.IsDone(1) || v.IsDone(0) {
			t.Fatal("it tells something")
		}
		for _, b := range []int{-1, 0, 1, math.MaxInt} {
			answers(t, api.ErrNil, noBlock(t, v.Read, b)())
			answers(t, api.ErrNil, noBlock(t, v.Old, b)())
			answersChange(t, v, api.ErrNil, b, 0, []byte{1}, nil)
			answers(t, api.ErrNil, v.Undo(b))
			answers(t, api.ErrNil, v.Write(b))
			answers(t, api.ErrNil, v.Complete(b, true))
			answers(t, api.ErrNil, v.Complete(b, false))
			answers(t, api.ErrNil, v.Sync([]int{b}))
			answers(t, api.ErrNil, v.Freeze(b))
			same(t, "pending", v.Pending(b))
		}
		answers(t, api.ErrNil, v.Sync(nil))
		answers(t, api.ErrNil, v.Thaw())
		same(t, "dirty", v.Dirty())
		same(t, "ready", v.Ready())
		same(t, "way", v.Way())
	}
}
