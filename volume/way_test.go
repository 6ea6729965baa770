package volume

import (
	"math"
	"testing"

	"bollard/api"
)

func TestP9_4Write(t *testing.T) {
	d, v := fresh(t, 8, 2)
	change(t, v, 1, 5, 0, 9)
	change(t, v, 2, 6, 0, 8, 1)
	change(t, v, 3, 5, 1, 7, 2)
	write(t, v, 5)
	queue := d.Queue()
	if len(queue) != 1 || queue[0].Block != 5 || string(queue[0].Bytes) != string(with(5, 0, 9)) {
		t.Fatalf("%v: patch 3 must be rolled back", queue)
	}
	reads(t, v, 5, with(5, 0, 9, 7)) // now, all the same
	onDisk(t, d, 5, full(5))
	same(t, "way", v.Way(), 5)
	if v.IsDone(1) {
		t.Fatal("done, and on the way still")
	}
}

func TestP9_4WriteRefuses(t *testing.T) {
	d, v := fresh(t, 4, 4)
	change(t, v, 1, 3, 0, 9)
	change(t, v, 2, 2, 0, 8, 1)
	for _, b := range wrong(4) {
		stays(t, v, api.ErrBlock, func() api.Errno { return v.Write(b) })
	}
	d.Fail(0, 1)
	d.Fail(2, 1)
	stays(t, v, api.ErrNone, func() api.Errno { return v.Write(0) }) // no patches, and not read
	stays(t, v, api.ErrNone, func() api.Errno { return v.Write(2) }) // its patch needs another
	d.Fail(3, 1)
	answers(t, api.ErrIO, v.Write(3))
	if left(d, 3) != 0 || len(d.Queue()) != 0 {
		t.Fatal("a read that failed")
	}
	same(t, "ready", v.Ready(), 3)
	write(t, v, 3)
	stays(t, v, api.ErrState, func() api.Errno { return v.Write(3) })
	change(t, v, 3, 3, 1, 7)
	stays(t, v, api.ErrState, func() api.Errno { return v.Write(3) }) // though there is more to write
}

func TestP9_4FullQueue(t *testing.T) {
	const blocks = api.MaxQueue + 2
	d, v := fresh(t, blocks, api.MaxCache)
	for b := range blocks {
		change(t, v, b+1, b, 0, 99)
	}
	for b := range api.MaxQueue {
		write(t, v, b)
	}
	if len(v.Way()) != api.MaxQueue {
		t.Fatal(v.Way())
	}
	stays(t, v, api.ErrState, func() api.Errno { return v.Write(api.MaxQueue) })
	same(t, "ready", v.Ready(), api.MaxQueue, api.MaxQueue+1)
	d.Fail(api.MaxQueue+1, 1)
	answers(t, api.ErrIO, v.Write(api.MaxQueue+1)) // the cache's error comes first
	answers(t, api.OK, v.Complete(5, true))
	write(t, v, api.MaxQueue)
	stays(t, v, api.ErrState, func() api.Errno { return v.Write(api.MaxQueue + 1) })
}

func TestP9_4Complete(t *testing.T) {
	d, v := fresh(t, 8, 8)
	for i, b := range []int{6, 1, 4} {
		change(t, v, i+1, b, 0, 99)
	}
	write(t, v, 6, 1, 4)
	for _, k := range []int{math.MinInt, -1, 3, 4, math.MaxInt} {
		stays(t, v, api.ErrArg, func() api.Errno { return v.Complete(k, true) })
		stays(t, v, api.ErrArg, func() api.Errno { return v.Complete(k, false) })
	}
	answers(t, api.OK, v.Complete(1, true)) // block 1
	same(t, "way", v.Way(), 6, 4)
	onDisk(t, d, 1, with(1, 0, 99))
	onDisk(t, d, 6, full(6))
	if !v.IsDone(2) || v.IsDone(1) || v.IsDone(3) {
		t.Fatal("just patch 2 is done")
	}
	same(t, "dirty", v.Dirty(), 4, 6)
	reads(t, v, 1, with(1, 0, 99))
	answers(t, api.OK, v.Complete(1, true)) // block 4
	answers(t, api.OK, v.Complete(0, true))
	same(t, "dirty", v.Dirty())
	stays(t, v, api.ErrArg, func() api.Errno { return v.Complete(0, true) })
	for _, b := range []int{6, 1, 4} {
		onDisk(t, d, b, with(byte(b), 0, 99))
		reads(t, v, b, with(byte(b), 0, 99))
	}
}

func TestP9_4CompleteOfAWriteThatFailed(t *testing.T) {
	d, v := fresh(t, 8, 8)
	change(t, v, 1, 5, 0, 99)
	was := tell(v)
	write(t, v, 5)
	answers(t, api.ErrIO, v.Complete(0, false))
	is := tell(v)
	same(t, "ready", is.ready, was.ready...)
	same(t, "way", is.way)
	onDisk(t, d, 5, full(5))
	reads(t, v, 5, with(5, 0, 99))
	if v.IsDone(1) {
		t.Fatal("a write that failed did a patch")
	}
	write(t, v, 5)
	answers(t, api.OK, v.Complete(0, true))
	onDisk(t, d, 5, with(5, 0, 99))
	same(t, "dirty", v.Dirty())
}

// TestP9_4ChangesWhileItIsOnTheWay: what was changed behind the write is
// pending still when the write is done.
func TestP9_4ChangesWhileItIsOnTheWay(t *testing.T) {
	for _, buffers := range []int{1, 8} {
		d, v := fresh(t, 8, buffers)
		change(t, v, 1, 5, 0, 99)
		write(t, v, 5)
		change(t, v, 2, 5, 0, 98)
		change(t, v, 3, 5, 1, 97)
		reads(t, v, 1, full(1)) // with one buffer block 5 has none any more
		answers(t, api.OK, v.Complete(0, true))
		same(t, "pending", v.Pending(5), 2, 3)
		onDisk(t, d, 5, with(5, 0, 99))
		reads(t, v, 5, with(5, 0, 98, 97))
		write(t, v, 5)
		answers(t, api.OK, v.Complete(0, true))
		onDisk(t, d, 5, with(5, 0, 98, 97))
		reads(t, v, 5, with(5, 0, 98, 97))
	}
}

// TestP9_4BytesOfABufferFollowTheDisk: the buffer of a block has what was sent,
// when that is done, and else what it had.
func TestP9_4BytesOfABufferFollowTheDisk(t *testing.T) {
	_, v := fresh(t, 8, 8)
	change(t, v, 1, 5, 0, 99)
	write(t, v, 5)
	answers(t, api.ErrIO, v.Complete(0, false))
	answers(t, api.OK, v.Undo(0))
	reads(t, v, 5, full(5))
	change(t, v, 1, 5, 0, 98)
	write(t, v, 5)
	answers(t, api.OK, v.Complete(0, true))
	reads(t, v, 5, with(5, 0, 98))
}

// TestP9_4WritesOfOthers: places are those of the disk's queue, whoever sent
// what stands there.
func TestP9_4WritesOfOthers(t *testing.T) {
	d, v := fresh(t, 8, 8)
	if _, e := d.Write(2, full(77)); e != api.OK {
		t.Fatal(e)
	}
	change(t, v, 1, 2, 0, 99)
	change(t, v, 2, 5, 0, 99)
	same(t, "way", v.Way(), 2)
	same(t, "ready", v.Ready(), 5)
	answers(t, api.ErrState, v.Write(2))
	write(t, v, 5)
	reads(t, v, 2, with(2, 0, 99))
	answers(t, api.OK, v.Complete(0, true))
	reads(t, v, 2, with(77, 0, 99))
	same(t, "way", v.Way(), 5)
	if v.IsDone(1) || v.IsDone(2) {
		t.Fatal("a write without patches did one")
	}
	d.Crash(nil) // what was on the way is lost
	same(t, "way", v.Way())
	same(t, "ready", v.Ready(), 2, 5)
	answers(t, api.ErrArg, v.Complete(0, true))
	if _, e := d.Write(5, full(66)); e != api.OK {
		t.Fatal(e)
	}
	answers(t, api.OK, v.Complete(0, true))
	if v.IsDone(2) {
		t.Fatal("another's write did a patch that was lost")
	}
	reads(t, v, 5, with(66, 0, 99))
}

func TestP9_5IsDone(t *testing.T) {
	_, v := fresh(t, 8, 8)
	change(t, v, 1, 5, 0, 99)
	change(t, v, 2, 6, 0, 99)
	write(t, v, 5)
	if v.IsDone(1) {
		t.Fatal("it is on the way")
	}
	answers(t, api.OK, v.Complete(0, true))
	for _, id := range []int{math.MinInt, -1, 0, 2, 3, math.MaxInt} {
		if v.IsDone(id) {
			t.Fatalf("patch %d is done", id)
		}
	}
	if !v.IsDone(1) {
		t.Fatal("patch 1 is not done")
	}
}
