package volume

import (
	"math"
	"testing"

	"bollard/api"
	"bollard/disk"
)

// writes is how many writes a disk has had.
func writes(t *testing.T, d *disk.Disk) int {
	t.Helper()
	id, e := d.Copy().Write(0, full(0))
	answers(t, api.OK, e)
	return id - 1
}

func TestP9_5SyncRefuses(t *testing.T) {
	_, v := fresh(t, 8, 8)
	stays(t, v, api.ErrPatch, func() api.Errno { return v.Sync([]int{1}) })
	change(t, v, 1, 5, 0, 99)
	change(t, v, 2, 6, 0, 99)
	write(t, v, 5)
	for _, id := range []int{math.MinInt, -1, 0, 3, math.MaxInt} {
		stays(t, v, api.ErrPatch, func() api.Errno { return v.Sync([]int{1, id, 2}) }) // nothing is completed
	}
}

func TestP9_5SyncGetsTheClosureThere(t *testing.T) {
	d, v := fresh(t, 8, 8)
	change(t, v, 1, 5, 0, 99)
	change(t, v, 2, 6, 0, 98, 1)
	change(t, v, 3, 5, 1, 97, 2)
	change(t, v, 4, 3, 0, 96)    // nobody needs it
	change(t, v, 5, 6, 1, 95)    // likewise, but it may be written with patch 2
	change(t, v, 6, 6, 2, 94, 4) // likewise, but what it needs is not done
	answers(t, api.OK, v.Sync([]int{3, 3}))
	same(t, "dirty", v.Dirty(), 3, 6)
	same(t, "pending", v.Pending(6), 6)
	same(t, "way", v.Way())
	onDisk(t, d, 5, with(5, 0, 99, 97))
	onDisk(t, d, 6, with(6, 0, 98, 95))
	onDisk(t, d, 3, full(3))
	// Blocks 5 and 6 are ready at first, both having a patch of the closure:
	// of 6 patch 5 alone may be written then. Then 6 again, then 5.
	if n := writes(t, d); n != 4 {
		t.Fatalf("%d writes, want 4", n)
	}
	answers(t, api.OK, v.Sync([]int{3, 1, 5}))
	if n := writes(t, d); n != 4 {
		t.Fatal("what is done was written again")
	}
	answers(t, api.OK, v.Sync([]int{6}))
	same(t, "dirty", v.Dirty())
}

func TestP9_5SyncEmptiesTheQueueFirst(t *testing.T) {
	for _, none := range [][]int{nil, {}, {3}} {
		d, v := fresh(t, 8, 8)
		change(t, v, 1, 5, 0, 99)
		change(t, v, 2, 6, 0, 98)
		change(t, v, 3, 7, 0, 97)
		write(t, v, 7)
		answers(t, api.OK, v.Complete(0, true))
		write(t, v, 6, 5)
		change(t, v, 4, 5, 1, 96)
		answers(t, api.OK, v.Sync(none))
		same(t, "way", v.Way())
		same(t, "dirty", v.Dirty(), 5)
		onDisk(t, d, 5, with(5, 0, 99))
		onDisk(t, d, 6, with(6, 0, 98))
		if n := writes(t, d); n != 3 {
			t.Fatalf("%d writes, want 3", n)
		}
	}
}

func TestP9_5SyncOfMoreThanTheQueueTakes(t *testing.T) {
	const blocks = 2*api.MaxQueue + 3
	d, v := fresh(t, blocks, 4)
	var all []int
	for b := range blocks {
		change(t, v, b+1, b, 0, 99)
		all = append(all, b+1)
	}
	answers(t, api.OK, v.Sync(all))
	same(t, "dirty", v.Dirty())
	for b := range blocks {
		onDisk(t, d, b, with(byte(b), 0, 99))
	}
	if n := writes(t, d); n != blocks {
		t.Fatalf("%d writes, want %d", n, blocks)
	}
}

// TestP9_5SyncFails: the round in which a write can't be sent goes on, rising,
// as long as the queue has room; no further one is begun.
func TestP9_5SyncFails(t *testing.T) {
	const blocks = api.MaxQueue + 5
	d, v := fresh(t, blocks, 4)
	var all []int
	for b := range blocks {
		change(t, v, b+1, b, 0, 99)
		all = append(all, b+1)
	}
	d.Fail(3, 1)
	answers(t, api.ErrIO, v.Sync(all))
	same(t, "way", v.Way())
	same(t, "dirty", v.Dirty(), 3, api.MaxQueue+1, api.MaxQueue+2, api.MaxQueue+3, api.MaxQueue+4)
	onDisk(t, d, 3, full(3))
	onDisk(t, d, api.MaxQueue, with(api.MaxQueue, 0, 99))
	answers(t, api.OK, v.Sync(all))
	same(t, "dirty", v.Dirty())
}

func TestP9_5SyncFailsInALaterRound(t *testing.T) {
	d, v := fresh(t, 8, 1)
	change(t, v, 1, 5, 0, 99)
	change(t, v, 2, 6, 0, 98, 1)
	change(t, v, 3, 7, 0, 97, 2)
	d.Fail(6, 2)
	for range 2 {
		answers(t, api.ErrIO, v.Sync([]int{3}))
		if !v.IsDone(1) || v.IsDone(2) || v.IsDone(3) { // what was done stays so
			t.Fatal("just the first patch is done")
		}
		same(t, "way", v.Way())
		same(t, "ready", v.Ready(), 6)
	}
	answers(t, api.OK, v.Sync([]int{3}))
	if !v.IsDone(3) {
		t.Fatal("it is not done")
	}
	d.Fail(0, 1)
	answers(t, api.OK, v.Sync([]int{1, 2, 3})) // nothing is read
}

// TestP9_5SyncWritesOnlyWhatItMust: a failing block that has no patch of the
// closure plays no part.
func TestP9_5SyncWritesOnlyWhatItMust(t *testing.T) {
	d, v := fresh(t, 8, 1)
	change(t, v, 1, 5, 0, 99)
	change(t, v, 2, 6, 0, 98)
	d.Fail(5, 1)
	answers(t, api.OK, v.Sync([]int{2}))
	same(t, "dirty", v.Dirty(), 5)
	if left(d, 5) != 1 {
		t.Fatal("block 5 was read")
	}
}
