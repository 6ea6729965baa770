package volume

import (
	"bytes"
	"math/rand"
	"slices"
	"testing"

	"bollard/api"
	"bollard/disk"
)

// user changes a volume at random, and knows what each block must be now.
type user struct {
	t      *testing.T
	source *rand.Rand
	disk   *disk.Disk
	volume *Volume
	nows   [][][]byte // all blocks, behind as many patches
}

func newUser(t *testing.T, seed int64, blocks, buffers int) *user {
	t.Helper()
	d, v := fresh(t, blocks, buffers)
	return &user{t: t, source: rand.New(rand.NewSource(seed)), disk: d, volume: v, nows: [][][]byte{d.Image()}}
}

func (u *user) now() [][]byte {
	return u.nows[len(u.nows)-1]
}

func (u *user) change() {
	u.t.Helper()
	b, off := u.source.Intn(u.volume.Blocks()), u.source.Intn(api.Size)
	put := make([]byte, 1+u.source.Intn(api.Size-off))
	u.source.Read(put)
	var needs []int
	for range min(u.volume.Last(), u.source.Intn(3)) {
		needs = append(needs, 1+u.source.Intn(u.volume.Last()))
	}
	if _, e := u.volume.Change(b, off, put, needs); e != api.OK {
		u.t.Fatal(e)
	}
	next := slices.Clone(u.now())
	next[b] = slices.Clone(next[b])
	copy(next[b][off:], put)
	u.nows = append(u.nows, next)
}

// undo takes back what is neither done nor on the way, as a call that ran into
// an error does.
func (u *user) undo(least int) {
	u.t.Helper()
	last := u.volume.Last()
	for last > least && u.source.Intn(3) > 0 && !u.isSent(last) {
		last--
	}
	if e := u.volume.Undo(last); e != api.OK {
		u.t.Fatal(e)
	}
	u.nows = u.nows[:last+1]
}

func (u *user) isSent(id int) bool {
	if u.volume.IsDone(id) {
		return true
	}
	for _, w := range u.volume.way {
		if slices.Contains(w.patches, id) {
			return true
		}
	}
	return false
}

func (u *user) write() {
	u.t.Helper()
	if ready := u.volume.Ready(); len(ready) > 0 {
		if e := u.volume.Write(ready[u.source.Intn(len(ready))]); e != api.OK {
			u.t.Fatal(e)
		}
	}
}

func (u *user) complete() {
	u.t.Helper()
	if way := u.volume.Way(); len(way) > 0 {
		u.volume.Complete(u.source.Intn(len(way)), u.source.Intn(4) > 0)
	}
}

func (u *user) step(least int) {
	u.t.Helper()
	switch kind := u.source.Intn(12); {
	case kind < 5:
		u.change()
	case kind < 6:
		u.undo(least)
	case kind < 9:
		u.write()
	case kind < 11:
		u.complete()
	case u.volume.Last() > 0 && u.source.Intn(3) == 0:
		if e := u.volume.Sync([]int{1 + u.source.Intn(u.volume.Last())}); e != api.OK {
			u.t.Fatal(e)
		}
	}
}

func TestP9_7Now(t *testing.T) {
	for seed := range int64(30) {
		u := newUser(t, seed, 6, 1+int(seed)%7)
		for range 150 {
			u.step(0)
			for b, want := range u.now() {
				reads(t, u.volume, b, want)
			}
		}
	}
}

func TestP9_8Synced(t *testing.T) {
	for seed := range int64(60) {
		u := newUser(t, seed, 6, 3)
		for range 60 {
			u.step(0)
		}
		u.change()
		ids := []int{u.volume.Last(), 1 + u.source.Intn(u.volume.Last())}
		closure := u.volume.patches.Closure(ids)
		var blocks []int
		for _, id := range closure {
			p, e := u.volume.patches.Get(id)
			answers(t, api.OK, e)
			blocks = append(blocks, p.Block)
		}
		answers(t, api.OK, u.volume.Sync(ids))
		for _, id := range closure {
			if !u.volume.IsDone(id) {
				t.Fatalf("patch %d is not done", id)
			}
		}
		for _, b := range blocks {
			if len(u.volume.Pending(b)) == 0 {
				onDisk(t, u.disk, b, u.now()[b])
			}
		}
		var all []int
		for id := range u.volume.Last() {
			all = append(all, id+1)
		}
		answers(t, api.OK, u.volume.Sync(all))
		for b, want := range u.now() {
			onDisk(t, u.disk, b, want)
		}
	}
}

func TestP9_9GetsOn(t *testing.T) {
	for seed := range int64(60) {
		u := newUser(t, seed, 6, 3)
		for range 80 {
			u.change()
		}
		for len(u.volume.Dirty()) > 0 { // each write, with what it has, is done
			if len(u.volume.Ready()) == 0 {
				t.Fatal("something is dirty, nothing on the way, and nothing ready")
			}
			u.write()
			answers(t, api.OK, u.volume.Complete(0, true))
		}
		for b, want := range u.now() {
			onDisk(t, u.disk, b, want)
		}
	}
}

func TestP9_10Frozen(t *testing.T) {
	for seed := range int64(60) {
		u := newUser(t, seed, 6, 1+int(seed)%7)
		for range 40 {
			u.step(0)
		}
		room := int(seed) % 8
		answers(t, api.OK, u.volume.Freeze(room))
		was, since := u.now(), u.volume.Last()
		for range 80 {
			u.step(since)
			if u.volume.Broken() {
				if u.volume.Kept() != room {
					t.Fatal("broken, and there is room")
				}
				break
			}
			for b, want := range was {
				olds(t, u.volume, b, want)
			}
		}
		if room >= 6 && u.volume.Broken() {
			t.Fatal("broken, with room for all blocks")
		}
	}
}

// TestP9_11Whole goes by what was asked for: a patch's needs, and what it lay
// over, must be done, or have been sent with it.
func TestP9_11Whole(t *testing.T) {
	for seed := range int64(40) {
		u := newUser(t, seed, 5, 3)
		for range 150 {
			switch u.source.Intn(3) {
			case 0:
				u.change()
			case 1:
				u.write()
				u.isWhole()
			case 2:
				u.complete()
			}
		}
	}
}

func (u *user) isWhole() {
	u.t.Helper()
	for _, sent := range u.disk.Queue() {
		patches := u.volume.way[sent.Block].patches
		if len(patches) == 0 {
			u.t.Fatalf("block %d was sent without patches", sent.Block)
		}
		want := u.disk.Image()[sent.Block]
		for _, id := range patches {
			p, e := u.volume.patches.Get(id)
			answers(u.t, api.OK, e)
			copy(want[p.Off:], p.Bytes)
			for _, need := range p.Needs {
				if !u.volume.IsDone(need) && !slices.Contains(patches, need) {
					u.t.Fatalf("patch %d was sent without %d", id, need)
				}
			}
		}
		if !bytes.Equal(sent.Bytes, want) {
			u.t.Fatalf("block %d was sent with other bytes than its patches'", sent.Block)
		}
	}
}
