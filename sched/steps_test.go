package sched

import (
	"bytes"
	"math"
	"reflect"
	"slices"
	"testing"

	"bollard/api"
	"bollard/check"
	"bollard/disk"
	"bollard/scan"
	"bollard/snap"
	"bollard/vfs"
)

// numbers are such as a step may have, and what they count as of so many.
func numbers(many int) map[int]int {
	out := map[int]int{math.MinInt: 0, -many: 0, -1: 0, math.MaxInt: math.MaxInt % many, 1<<40 + 1: (1<<40 + 1) % many}
	for n := range 3*many + 1 {
		out[n] = n % many
	}
	return out
}

// TestP23_2Kinds: what is no kind of step is ErrArg, and nothing has changed.
func TestP23_2Kinds(t *testing.T) {
	m := leaky(t)
	calls(t, m, create("/x"), mkdir("/y"))
	does(t, m, send(0), snapped(9), checked())
	for _, kind := range []int{math.MinInt, -77, -1, 0, api.NumSteps, api.NumSteps + 1, 77, math.MaxInt} {
		refuses(t, m, api.ErrArg, api.Step{Kind: kind})
		refuses(t, m, api.ErrArg, api.Step{Kind: kind, N: 1, Mask: 1, Call: mkdir("/z"), Request: api.Request{Kind: 1, N: 9, Gen: 1}})
	}
}

// TestP23_2Call: a step is the file system's call, its errors included.
func TestP23_2Call(t *testing.T) {
	m, twin := fresh(t, small), fresh(t, small)
	for _, c := range []api.Call{
		mkdir("/a"), mkdir("/a"), create("/a/b"), write(0, 100, make([]byte, 200)), read(0, 90, 30), read(0, -1, 30), read(1, 0, 9),
		stat("/a/b"), list("/a"), list("/"), list("/a/b"), link("/a/b", "/c"), rename("/a", "/a/x"), rename("/c", "/a/d"),
		truncate(0, 5), fsync(0), synced(), opened("/a/b"), opened("/a"), unlink("/a/b"), unlink("/a"), rmdir("/a"), closed(0), closed(0),
		{}, {Kind: -1}, {Kind: api.NumCalls}, mkdir(""), mkdir("/"), write(1, 0, make([]byte, 40*api.Size)),
	} {
		want, why := twin.FS().Do(c)
		if why != api.OK {
			refuses(t, m, why, call(c))
			continue
		}
		if got, e := m.Do(call(c)); e != why || !same(got, want) {
			t.Fatal(c, got, e, want, why)
		}
	}
	if !sameImage(now(t, m), now(t, twin)) {
		t.Fatal("it is not what the file system's calls make")
	}
}

// TestP23_2Write: the nth block that is ready is sent, and no other.
func TestP23_2Write(t *testing.T) {
	dirty := func() *Machine {
		m := fresh(t, wide)
		calls(t, m, create("/a"), mkdir("/d"), write(0, 0, make([]byte, 300)))
		return m
	}
	ready := dirty().FS().Volume().Ready()
	if len(ready) < 4 {
		t.Fatal(ready)
	}
	for n, place := range numbers(len(ready)) {
		m := dirty()
		was, image := now(t, m), m.Disk().Image()
		tells(t, m, api.OK, send(n))
		queue := m.Disk().Queue()
		if len(queue) != 1 || queue[0].Block != ready[place] {
			t.Fatal(n, "sent another block than", ready[place])
		}
		if !sameImage(now(t, m), was) || !sameImage(m.Disk().Image(), image) {
			t.Fatal(n, "something has changed")
		}
	}
}

func TestP23_2WriteRefuses(t *testing.T) {
	m := fresh(t, small)
	does(t, m, send(0)) // the mount's own patch
	for _, n := range []int{math.MinInt, -1, 0, 1, math.MaxInt} {
		refuses(t, m, api.ErrStep, send(n)) // it is on the way: nothing is ready
	}
	does(t, m, done(0))
	refuses(t, m, api.ErrStep, send(0))

	m = fresh(t, api.Geom{Groups: 1, Blocks: 100, Inodes: 8})
	calls(t, m, create("/a"))
	for b := range api.MaxQueue { // somebody else's
		_, e := m.Disk().Write(20+b, make([]byte, api.Size))
		answers(t, api.OK, e)
	}
	refuses(t, m, api.ErrState, send(0)) // what the disk tells
	does(t, m, done(0), send(0))

	m = fresh(t, api.Geom{Groups: 8, Blocks: 24, Inodes: 8}) // more blocks than there are buffers
	calls(t, m, create("/a"))
	now(t, m)
	b := m.FS().Volume().Ready()[0]
	answers(t, api.OK, m.Disk().Fail(b, 1))
	was := stateOfDisk(m)
	tells(t, m, api.ErrIO, send(0))
	if !reflect.DeepEqual(stateOfDisk(m), was) {
		t.Fatal("something has changed")
	}
	does(t, m, send(0))
}

// stateOfDisk is what a machine has without a read of its disk.
func stateOfDisk(m *Machine) []any {
	v := m.FS().Volume()
	return []any{m.Disk().Image(), m.Disk().Queue(), v.Last(), v.Dirty(), v.Ready()}
}

// TestP23_2Complete: the nth write of the queue is done, or fails, and no other.
func TestP23_2Complete(t *testing.T) {
	sent := func() *Machine {
		m := fresh(t, wide)
		calls(t, m, create("/a"), mkdir("/d"), write(0, 0, make([]byte, 300)))
		for len(m.FS().Volume().Ready()) > 0 {
			does(t, m, send(1)) // in another order than that of the blocks
		}
		return m
	}
	queue := sent().Disk().Queue()
	if len(queue) < 4 {
		t.Fatal(queue)
	}
	for n, place := range numbers(len(queue)) {
		for _, ok := range []bool{true, false} {
			m := sent()
			was, image := now(t, m), m.Disk().Image()
			s := failed(n)
			if ok {
				s = done(n)
				image[queue[place].Block] = queue[place].Bytes
			}
			tells(t, m, api.OK, s)
			if got, want := m.Disk().Queue(), slices.Delete(slices.Clone(queue), place, place+1); !reflect.DeepEqual(got, want) {
				t.Fatal(n, "another write is gone from the queue")
			}
			if !sameImage(m.Disk().Image(), image) || !sameImage(now(t, m), was) {
				t.Fatal(n, ok, "something else is on the disk")
			}
			if isReady := slices.Contains(m.FS().Volume().Ready(), queue[place].Block); !ok && !isReady {
				t.Fatal(n, "it failed, and is not ready again")
			}
		}
	}
}

func TestP23_2CompleteRefuses(t *testing.T) {
	m := fresh(t, small)
	calls(t, m, create("/a"))
	for _, n := range []int{math.MinInt, -1, 0, 1, math.MaxInt} {
		refuses(t, m, api.ErrStep, done(n))
		refuses(t, m, api.ErrStep, failed(n))
	}
	does(t, m, send(0), failed(3), send(0), done(-7))
	refuses(t, m, api.ErrStep, done(0))
}

// TestP23_2Snap: room below 0 is none, above the most it is the most.
func TestP23_2Snap(t *testing.T) {
	for _, room := range []int{math.MinInt, -1, 0, 1, 2, 1<<16 - 1, 1 << 16, 1<<16 + 1, math.MaxInt} {
		m := fresh(t, small)
		tells(t, m, api.OK, snapped(room))
		if !m.Snap() || m.checker.Pass() != 1 {
			t.Fatal(room, "there is no snapshot with a checker")
		}
		calls(t, m, create("/a")) // the header, the block of inodes, the root's block
		v := m.FS().Volume()
		if want := max(min(room, 3), 0); v.Kept() != want || v.Broken() != (want < 3) {
			t.Fatal(room, v.Kept(), v.Broken())
		}
		refuses(t, m, api.ErrState, snapped(room))
		refuses(t, m, api.ErrState, snapped(5))
		answers(t, api.OK, v.Thaw()) // by somebody else: the machine has its snapshot still
		refuses(t, m, api.ErrState, snapped(5))
	}
}

// TestP23_2SnapRefuses: what snap.Take tells; such a one was not taken.
func TestP23_2SnapRefuses(t *testing.T) {
	m := leaky(t)
	v := m.FS().Volume()
	answers(t, api.OK, v.Freeze(9)) // by somebody else
	refuses(t, m, api.ErrState, snapped(9))
	if m.Snap() {
		t.Fatal("there is a snapshot")
	}
	answers(t, api.OK, v.Thaw())
	for number := 1; number <= 3; number++ { // each has the next number, crashes or not
		does(t, m, snapped(99))
		for _, r := range checkAll(t, m) {
			if r.Gen != number {
				t.Fatal(r, "and not of", number)
			}
		}
		if len(m.Asked()) == 0 {
			t.Fatal("nothing is asked")
		}
		does(t, m, crashed(0))
	}
}

// TestP23_2Check: step by step what a checker of such a snapshot asks.
func TestP23_2Check(t *testing.T) {
	m, twin := leaky(t), leaky(t)
	refuses(t, m, api.ErrState, checked())
	does(t, m, snapped(99))
	s, e := snap.Take(twin.FS().Volume(), small, 1, 99)
	answers(t, api.OK, e)
	c, e := check.New(s)
	answers(t, api.OK, e)
	var want []api.Request
	for steps := 0; !c.Done(); steps++ {
		if !m.Snap() || steps > 3*small.Inodes+small.Groups {
			t.Fatal("not as many steps as the checker has", steps)
		}
		asked, e := c.Step()
		answers(t, api.OK, e)
		want = append(want, asked...)
		tells(t, m, api.OK, checked())
		if !slices.Equal(m.Asked(), want) {
			t.Fatal(m.Asked(), want)
		}
		calls(t, m, mkdir("/x"), rmdir("/x")) // users go on
	}
	if m.Snap() || m.FS().Volume().Kept() != 0 || len(want) != 4 {
		t.Fatal("it is done, and the snapshot is not dropped")
	}
	refuses(t, m, api.ErrState, checked())
	if !slices.Equal(m.Asked(), want) {
		t.Fatal("what was asked is gone")
	}
}

// TestP23_2CheckAgain: what another checker asks stands behind what was asked.
func TestP23_2CheckAgain(t *testing.T) {
	m := leaky(t)
	does(t, m, snapped(99))
	first := checkAll(t, m)
	does(t, m, snapped(99))
	if !slices.Equal(m.Asked(), first) {
		t.Fatal("a new snapshot has made what was asked go")
	}
	second := checkAll(t, m)
	if len(second) != 2*len(first) || !slices.Equal(second[:len(first)], first) {
		t.Fatal(second)
	}
	for i, r := range second { // those of the snapshot ahead are stale
		want := api.ErrStale
		if r.Gen == 2 {
			want = api.OK
		}
		tells(t, m, want, adjusted())
		if !slices.Equal(m.Asked(), second[i+1:]) {
			t.Fatal("it is asked still", m.Asked())
		}
	}
	if !slices.Equal(m.Freed(), second[len(first):]) || !clean(leaks(t, now(t, m))) {
		t.Fatal(m.Freed())
	}
}

// ahead has a checker make steps until something is asked.
func ahead(t *testing.T, m *Machine) {
	t.Helper()
	for len(m.Asked()) == 0 {
		does(t, m, checked())
	}
}

// TestP23_2CheckBroken: snapshot and checker are dropped, with all that was
// asked, and ErrState is told.
func TestP23_2CheckBroken(t *testing.T) {
	gone := func(m *Machine) {
		t.Helper()
		if m.Snap() || len(m.Asked()) > 0 || m.FS().Volume().Kept() > 0 || m.FS().Volume().Broken() {
			t.Fatal("something is left")
		}
		refuses(t, m, api.ErrState, checked())
		refuses(t, m, api.ErrState, dropped())
		refuses(t, m, api.ErrStep, adjusted())
		does(t, m, snapped(99)) // another one can be taken
		if asked := checkAll(t, m); len(asked) != 4 || asked[0].Gen != 2 {
			t.Fatal(asked)
		}
	}
	m := leaky(t)
	does(t, m, snapped(2))
	ahead(t, m)
	calls(t, m, create("/x")) // three blocks
	if !m.FS().Volume().Broken() || !m.Snap() || len(m.Asked()) == 0 {
		t.Fatal("it was dropped ahead of the checker's step")
	}
	tells(t, m, api.ErrState, checked())
	calls(t, m, unlink("/x"), closed(0))
	gone(m)

	m = leaky(t) // somebody else has dropped it
	does(t, m, snapped(99))
	ahead(t, m)
	answers(t, api.OK, m.FS().Volume().Thaw())
	tells(t, m, api.ErrState, checked())
	gone(m)
}

// TestP23_2CheckFails: likewise where the disk fails; what it tells is not told.
func TestP23_2CheckFails(t *testing.T) {
	m := fresh(t, api.Geom{Groups: 8, Blocks: 24, Inodes: 8}) // more blocks than there are buffers
	calls(t, m, create("/a"))
	sendBlocks(t, m, 1)
	does(t, m, crashed(1), snapped(99))
	if asked := checkAll(t, m); !slices.Equal(asked, []api.Request{{Kind: api.FreeInode, N: 3, Gen: 1}}) {
		t.Fatal(asked)
	}
	does(t, m, snapped(99))
	now(t, m)
	answers(t, api.OK, m.Disk().Fail(2, 1))
	tells(t, m, api.ErrState, checked())
	if m.Snap() || len(m.Asked()) > 0 {
		t.Fatal("something is left")
	}
	refuses(t, m, api.ErrState, checked())
	does(t, m, snapped(99))
	if asked := checkAll(t, m); !slices.Equal(asked, []api.Request{{Kind: api.FreeInode, N: 3, Gen: 3}}) {
		t.Fatal(asked)
	}
	now(t, m)
	answers(t, api.OK, m.Disk().Fail(2, 1))
	tells(t, m, api.ErrIO, adjusted()) // of a request that is told, and it is asked no more
	if len(m.Asked())+len(m.Freed()) > 0 {
		t.Fatal(m.Asked(), m.Freed())
	}
	does(t, m, forged(api.Request{Kind: api.FreeInode, N: 3, Gen: 3}))
}

// TestP23_2Adjust: the request, or the first that was asked, which is asked no
// more.
func TestP23_2Adjust(t *testing.T) {
	m := leaky(t)
	refuses(t, m, api.ErrStep, adjusted())
	does(t, m, snapped(99))
	asked := checkAll(t, m)

	own := asked[2] // made ahead of its turn
	does(t, m, forged(own))
	if !slices.Equal(m.Asked(), asked) || !slices.Equal(m.Freed(), []api.Request{own}) {
		t.Fatal(m.Asked(), m.Freed())
	}
	refuses(t, m, api.ErrFree, forged(own))
	does(t, m, adjusted(), adjusted())
	was := now(t, m)
	tells(t, m, api.ErrFree, adjusted()) // refused, and asked no more
	if !slices.Equal(m.Asked(), asked[3:]) || !sameImage(now(t, m), was) {
		t.Fatal(m.Asked())
	}
	does(t, m, adjusted())
	if !slices.Equal(m.Freed(), []api.Request{own, asked[0], asked[1], asked[3]}) {
		t.Fatal(m.Freed())
	}
	refuses(t, m, api.ErrStep, adjusted())
	calls(t, m, synced())
	if !clean(leaks(t, m.Disk().Image())) {
		t.Fatal("it leaks still")
	}
}

// TestP23_2AdjustRefuses: what anybody makes up.
func TestP23_2AdjustRefuses(t *testing.T) {
	m := leaky(t)
	refuses(t, m, api.ErrStale, forged(api.Request{Kind: api.FreeInode, N: 3, Gen: 1})) // there was no snapshot yet
	does(t, m, snapped(99))
	calls(t, m, create("/f"), write(0, 0, []byte("x")), unlink("/f"))
	open := m.FS().Open()[0]
	for _, c := range []struct {
		why  api.Errno
		r    api.Request
		what string
	}{
		{api.ErrArg, api.Request{Kind: api.FreeInode, N: 2, Gen: 1}, "the root"},
		{api.ErrHeld, api.Request{Kind: api.FreeBlock, N: 4, Gen: 1}, "the root's block"},
		{api.ErrHeld, api.Request{Kind: api.FreeInode, N: open, Gen: 1}, "an open file without a name"},
		{api.ErrFree, api.Request{Kind: api.FreeBlock, N: 31, Gen: 1}, "a free block"},
		{api.ErrArg, api.Request{Kind: api.FreeBlock, N: 3, Gen: 1}, "a block of inodes"},
		{api.ErrArg, api.Request{Kind: api.FreeBlock, N: -1, Gen: 1}, "no block"},
		{api.ErrArg, api.Request{Kind: api.FreeInode, N: math.MaxInt, Gen: 1}, "no inode"},
		{api.ErrArg, api.Request{Kind: 4, N: 9, Gen: 1}, "no kind"},
		{api.ErrArg, api.Request{Kind: math.MinInt, Gen: 1}, "no kind"},
		{api.ErrArg, api.Request{Gen: 1}, "no kind, and not the zero request"},
		{api.ErrStale, api.Request{Kind: api.FreeInode, N: 3}, "of no snapshot"},
		{api.ErrStale, api.Request{N: 1}, "of no snapshot, of no kind"},
		{api.ErrStale, api.Request{To: 1}, "of no snapshot, of nothing"},
		{api.ErrStale, api.Request{Kind: api.FreeInode, N: 3, Gen: 2}, "of one that is to come"},
		{api.ErrStale, api.Request{Kind: api.FreeInode, N: 3, Gen: -1}, "of none that can be"},
	} {
		if _, e := m.Do(forged(c.r)); e != c.why {
			t.Fatal(c.what, e, c.why)
		}
		refuses(t, m, c.why, forged(c.r))
	}
	does(t, m, dropped(), snapped(99))
	refuses(t, m, api.ErrStale, forged(api.Request{Kind: api.FreeInode, N: 3, Gen: 1})) // of the snapshot ahead
	does(t, m, forged(api.Request{Kind: api.FreeInode, N: 3, Gen: 2}))
	does(t, m, dropped())
	does(t, m, forged(api.Request{Kind: api.FreeInode, N: 4, Gen: 2})) // the last one's number counts, there or not
	if len(m.Freed()) != 2 {
		t.Fatal(m.Freed())
	}
}

// TestP23_2Drop: what was asked goes with the snapshot.
func TestP23_2Drop(t *testing.T) {
	m := leaky(t)
	refuses(t, m, api.ErrState, dropped())
	does(t, m, snapped(99))
	ahead(t, m)
	tells(t, m, api.OK, dropped())
	if m.Snap() || len(m.Asked()) > 0 || m.FS().Volume().Kept() > 0 {
		t.Fatal("something is left")
	}
	refuses(t, m, api.ErrState, dropped())
	refuses(t, m, api.ErrState, checked())
	refuses(t, m, api.ErrStep, adjusted())
	answers(t, api.OK, m.FS().Volume().Freeze(1)) // it is not frozen any more
	answers(t, api.OK, m.FS().Volume().Thaw())

	does(t, m, snapped(0))
	calls(t, m, mkdir("/x"))
	does(t, m, dropped(), snapped(99)) // a broken one, too
	checkAll(t, m)
	refuses(t, m, api.ErrState, dropped()) // the checker was done: what it asked stays
	if len(m.Asked()) == 0 {
		t.Fatal("what was asked is gone")
	}
}

// TestP23_2Crash: just the writes are done whose places the mask has.
func TestP23_2Crash(t *testing.T) {
	sent := func() *Machine {
		m := fresh(t, wide)
		calls(t, m, create("/a"), mkdir("/d"), write(0, 0, make([]byte, 300)))
		for len(m.Disk().Queue()) < 4 {
			does(t, m, send(1))
		}
		does(t, m, done(0)) // so that numbers are not places
		return m
	}
	for _, beyond := range []uint64{0, 1 << 3, 1 << 63, math.MaxUint64 - 7} {
		for set := range uint64(8) {
			m := sent()
			want := m.Disk().Image()
			for i, w := range m.Disk().Queue() {
				if set>>i&1 == 1 {
					want[w.Block] = w.Bytes
				}
			}
			f, d := m.FS(), m.Disk()
			tells(t, m, api.OK, crashed(set|beyond))
			if !sameImage(m.Disk().Image(), want) || len(m.Disk().Queue()) != 0 {
				t.Fatal(set, beyond, "another image is left")
			}
			if m.Disk() != d || m.FS() == f || m.FS().Volume().Last() != 1 || len(m.FS().Open()) > 0 {
				t.Fatal("it was not mounted again")
			}
		}
	}
}

// TestP23_2CrashLeaves: what a crash makes go, and what it leaves.
func TestP23_2CrashLeaves(t *testing.T) {
	m := leaky(t)
	does(t, m, snapped(99))
	asked := checkAll(t, m)
	does(t, m, adjusted(), snapped(99), checked())
	calls(t, m, create("/x"))
	answers(t, api.OK, m.Disk().Fail(5, 9))
	does(t, m, crashed(0))
	if m.Snap() || len(m.Asked()) > 0 || len(m.FS().Open()) > 0 || m.FS().Volume().Kept() > 0 {
		t.Fatal("something is left")
	}
	if !slices.Equal(m.Freed(), asked[:1]) {
		t.Fatal("what was done since New is forgotten", m.Freed())
	}
	refuses(t, m, api.ErrState, checked())
	refuses(t, m, api.ErrState, dropped())
	refuses(t, m, api.ErrStep, adjusted())
	refuses(t, m, api.ErrAbsent, call(stat("/x")))
	if _, e := m.Disk().Read(5); e != api.OK {
		t.Fatal(e)
	}
	does(t, m, snapped(99))
	if again := checkAll(t, m); len(again) != 4 || again[0].Gen != 3 { // what was adjusted did not reach the disk
		t.Fatal(again)
	}
}

// TestP23_2CrashRefused: a disk that can't be mounted. (Only somebody who
// writes to it past the file system leaves it so.)
func TestP23_2CrashRefused(t *testing.T) {
	m := leaky(t)
	does(t, m, snapped(99))
	checkAll(t, m)
	does(t, m, adjusted(), snapped(99), checked())
	freed := m.Freed()
	good := m.Disk().Image()[0]
	worse := bytes.Clone(good)
	worse[20] ^= 1
	for _, bad := range [][]byte{make([]byte, api.Size), worse, m.Disk().Image()[1]} {
		_, e := m.Disk().Write(0, bad)
		answers(t, api.OK, e)
		image := m.Disk().Image()
		image[0] = bad
		want := mountOf(t, image)
		for range 2 { // again and again
			tells(t, m, want, crashed(1))
			if m.FS() != nil || m.Snap() || len(m.Asked()) > 0 || len(m.Disk().Queue()) > 0 {
				t.Fatal("something is left")
			}
			if !slices.Equal(m.Freed(), freed) || !sameImage(m.Disk().Image(), image) {
				t.Fatal("it is not what the crash left")
			}
			for kind := api.StepCall; kind < api.NumSteps; kind++ {
				if kind != api.StepCrash {
					refuses(t, m, api.ErrState, api.Step{Kind: kind, Call: mkdir("/a"), Request: api.Request{Kind: 1, N: 9, Gen: 2}})
					refuses(t, m, api.ErrState, api.Step{Kind: kind})
				}
			}
			for _, kind := range []int{math.MinInt, -1, 0, api.NumSteps, math.MaxInt} {
				refuses(t, m, api.ErrArg, api.Step{Kind: kind})
			}
		}
	}
	_, e := m.Disk().Write(0, good)
	answers(t, api.OK, e)
	if m.FS() != nil {
		t.Fatal("it is mounted ahead of a crash")
	}
	does(t, m, crashed(1), snapped(9))
	calls(t, m, mkdir("/b"), synced())
	answers(t, api.OK, scan.Accept(m.Disk().Image()))
	if m.taken != 3 {
		t.Fatal("the snapshots' numbers began anew", m.taken)
	}
}

// mountOf is the error of mounting an image.
func mountOf(t *testing.T, image [][]byte) api.Errno {
	t.Helper()
	d, e := disk.Of(image)
	answers(t, api.OK, e)
	_, e = vfs.Mount(d)
	if e == api.OK {
		t.Fatal("it can be mounted")
	}
	return e
}
