package sched

import (
	"bytes"
	"math"
	"math/rand"
	"reflect"
	"slices"
	"testing"

	"bollard/api"
	"bollard/crash"
	"bollard/disk"
	"bollard/geom"
	"bollard/mkfs"
	"bollard/scan"
	"bollard/tree"
)

// Tests of P1 to P7 of the document, each of which is P23.4 here.

var geoms = []api.Geom{
	small, wide, {Groups: 1, Blocks: 16, Inodes: 8}, {Groups: 4, Blocks: 40, Inodes: 16},
	{Groups: 1, Blocks: 64, Inodes: 32}, {Groups: 2, Blocks: 8, Inodes: 4},
}

// TestP23_4Scripts: P1 to P4 and P7 over steps of all kinds (see player).
func TestP23_4Scripts(t *testing.T) {
	crashes := 0
	for seed := range int64(40) {
		p := newPlayer(t, seed, geoms[seed%6])
		p.letters = []int{2, 4, 14}[seed/7%3]
		p.play(400, seed%4 > 0)
		p.recover(func() {})
		crashes += p.crashes
	}
	if crashes < 30 {
		t.Fatal(crashes)
	}
}

// TestP23_4P1Fails: each call tells what the tree tells, also while reads fail,
// or ErrIO: then nothing has changed.
func TestP23_4P1Fails(t *testing.T) {
	told := map[api.Errno]int{}
	for seed := range int64(8) {
		p := newPlayer(t, seed, api.Geom{Groups: 8, Blocks: 24, Inodes: 8}) // more blocks than there are buffers
		p.fails = true
		p.play(300, false)
		for e, n := range p.told {
			told[e] += n
		}
	}
	for _, e := range []api.Errno{api.OK, api.ErrIO, api.ErrAbsent, api.ErrExists, api.ErrFD, api.ErrDir, api.ErrNotDir, api.ErrFull, api.ErrLoop} {
		if told[e] == 0 {
			t.Fatal(e, "was never told")
		}
	}
}

// again plays steps on another machine.
func again(t *testing.T, g api.Geom, steps []api.Step) *Machine {
	t.Helper()
	m := fresh(t, g)
	for _, s := range steps {
		m.Do(s)
	}
	return m
}

// TestP23_4P2EachSet: with each set of the writes on the way done, what is left
// is accepted and mounted, what was synced is there, and P4.
func TestP23_4P2EachSet(t *testing.T) {
	sets := 0
	for seed := range int64(18) {
		g := geoms[1+seed%4]
		p := newPlayer(t, seed, g)
		p.play(60, seed%2 == 0)
		for len(p.m.FS().Volume().Ready()) > 0 && len(p.m.Disk().Queue()) < mostOnWay {
			p.must(send(p.source.Intn(9)))
		}
		images := crash.Images(p.m.Disk(), allSets)
		for mask, image := range images {
			sets++
			twin := *p
			twin.m = again(t, g, p.steps)
			twin.crashWith(uint64(mask))
			if !sameImage(twin.m.Disk().Image(), image) {
				t.Fatal(seed, mask, "another image than crash tells")
			}
			twin.recover(func() {})
			if twin.m.Snap() || !clean(leaks(t, now(t, twin.m))) {
				t.Fatal(seed, mask, "it leaks still")
			}
		}
	}
	if sets < 100 {
		t.Fatal(sets)
	}
}

// TestP23_4P2Synced: behind a sync and a crash there is what was synced, and
// nothing else.
func TestP23_4P2Synced(t *testing.T) {
	for seed := range int64(30) {
		p := newPlayer(t, seed, geoms[seed%6])
		p.play(120, seed%2 == 0)
		if _, e := p.call(synced()); e != api.OK {
			t.Fatal(e)
		}
		was := now(t, p.m)
		p.crash()
		if !sameImage(p.m.Disk().Image(), was) {
			t.Fatal(seed, "it is not as it was synced")
		}
	}
}

// TestP23_4P3Forged: whatever is asked, what users have stays: each request that
// can be, and some that can't, of a volume in which things leak.
func TestP23_4P3Forged(t *testing.T) {
	granted := 0
	for seed := range int64(8) {
		p := newPlayer(t, seed, geoms[seed%4])
		p.play(150, true)
		p.crash()
		p.play(20, false)
		g := p.m.FS().Geom()
		for kind := range 5 {
			for n := -1; n <= max(geom.Blocks(g), geom.Inodes(g)); n++ {
				freed := len(p.m.Freed())
				p.adjust(forged(api.Request{Kind: kind, N: n, Gen: p.m.taken}))
				granted += len(p.m.Freed()) - freed
			}
		}
		found := leaks(t, now(t, p.m))
		found.Inodes = slices.DeleteFunc(found.Inodes, func(ino int) bool { return slices.Contains(p.m.FS().Open(), ino) })
		if !clean(found) {
			t.Fatal("all was asked, and something leaks:", found)
		}
		if p.x != nil {
			p.holdAll()
		}
	}
	if granted < 10 {
		t.Fatal(granted)
	}
}

// TestP23_4P5AnyBytes: whatever bytes a crash leaves, it is mounted or refused,
// steps of all kinds end, and with an error nothing has changed.
func TestP23_4P5AnyBytes(t *testing.T) {
	accepted, mounted := 0, 0
	for seed := range int64(60) {
		p := newPlayer(t, seed, geoms[seed%4])
		p.play(80, false)
		m := p.m
		does(t, m, call(synced()))
		spoil(t, p.source, m.Disk())
		m.Do(crashed(math.MaxUint64))
		if m.FS() == nil {
			continue
		}
		mounted++
		if scan.Accept(now(t, m)) == api.OK {
			accepted++
		}
		for range 60 {
			s := p.anyStep()
			was := stateOf(t, m)
			a, e := m.Do(s)
			if e != api.OK && !same(a, api.Answer{}) {
				t.Fatal(seed, s, a, e)
			}
			is := stateOf(t, m)
			is.kept, is.broken = was.kept, was.broken // what is kept stays
			if e != api.OK && s.Kind == api.StepCall && !reflect.DeepEqual(is, was) {
				t.Fatal(seed, s, e, "something has changed")
			}
		}
		m.Do(dropped())
		does(t, m, snapped(1<<16))
		for steps := 0; m.Snap(); steps++ {
			if does(t, m, checked()); steps > 3*geom.Inodes(m.FS().Geom())+m.FS().Geom().Groups {
				t.Fatal(seed, "the checker has no end")
			}
		}
	}
	if accepted < 5 || mounted-accepted < 20 {
		t.Fatal(accepted, mounted)
	}
}

// spoil puts writes into a disk's queue that no file system sends.
func spoil(t *testing.T, source *rand.Rand, d *disk.Disk) {
	t.Helper()
	image := d.Image()
	for range 1 + source.Intn(6) {
		b := source.Intn(len(image))
		switch source.Intn(4) {
		case 0:
			source.Read(image[b])
		case 1:
			copy(image[b], image[source.Intn(len(image))])
		case 2, 3:
			b = 1 + source.Intn(5)
			image[b][source.Intn(api.Size)] ^= 1 << source.Intn(8)
		}
		d.Write(b, image[b]) // ErrBusy of one that is there already
	}
}

// TestP23_4P6Quiet: snapshots and checkers change nothing of what users' calls
// tell, nor of what reaches the disk.
func TestP23_4P6Quiet(t *testing.T) {
	for seed := range int64(120) {
		p := newPlayer(t, seed, geoms[seed%6])
		loud, plain := p.m, fresh(t, geoms[seed%6])
		for range 400 {
			s := p.anyStep()
			switch {
			case s.Kind == api.StepAdjust: // what it frees is to be seen
			case s.Kind == api.StepSnap || s.Kind == api.StepCheck || s.Kind == api.StepDrop:
				for range 1 + p.source.Intn(9) {
					loud.Do(s)
				}
			default:
				a, e := loud.Do(s)
				want, why := plain.Do(s)
				if e != why || !same(a, want) {
					t.Fatal(seed, said(s), a, e, "and not", want, why)
				}
			}
		}
		if !sameImage(now(t, loud), now(t, plain)) || !sameImage(loud.Disk().Image(), plain.Disk().Image()) {
			t.Fatal(seed, "the images part")
		}
	}
}

// anyStep is a step of any kind, crashes now and then.
func (p *player) anyStep() api.Step {
	path, other, fd := anyPath(p.source), anyPath(p.source), p.source.Intn(4)
	all := []api.Call{
		mkdir(path), create(path), opened(path), closed(fd), read(fd, 0, 500), write(fd, p.source.Intn(900), make([]byte, p.source.Intn(200))),
		truncate(fd, p.source.Intn(900)), unlink(path), rmdir(path), rename(path, other), link(path, other), stat(path), list(path), synced(), p.wrongCall(path),
	}
	switch r := p.source.Intn(40); {
	case r < 18:
		return call(all[p.source.Intn(len(all))])
	case r < 24:
		return send(p.source.Intn(9))
	case r < 29:
		return done(p.source.Intn(9))
	case r < 30:
		return failed(p.source.Intn(9))
	case r < 32:
		return snapped(p.source.Intn(20))
	case r < 36:
		return checked()
	case r < 38:
		return []api.Step{adjusted(), forged(api.Request{Kind: p.source.Intn(5), N: p.source.Intn(40), Gen: p.source.Intn(4)})}[p.source.Intn(2)]
	case r < 39:
		return dropped()
	}
	if p.source.Intn(4) > 0 {
		return checked()
	}
	return crashed(p.source.Uint64())
}

// TestP23_4P7GetsOn: whatever is written first, and whatever fails now and then,
// all of it gets to the disk.
func TestP23_4P7GetsOn(t *testing.T) {
	for seed := range int64(30) {
		p := newPlayer(t, seed, geoms[seed%6])
		p.play(150, seed%2 == 0)
		for steps := 0; len(p.m.FS().Volume().Dirty()) > 0; steps++ {
			if steps > 5000 {
				t.Fatal(seed, "it does not end")
			}
			p.flush()
		}
		if !sameImage(p.m.Disk().Image(), now(t, p.m)) {
			t.Fatal(seed, "not all is on the disk")
		}
	}
}

// TestP23_4Examples: those of the whole that a machine can tell.
func TestP23_4Examples(t *testing.T) {
	m := fresh(t, small)
	if a := calls(t, m, stat("/")); a.Links != 2 || a.Mode != api.ModeDir { // 1
		t.Fatal(a)
	}

	calls(t, m, create("/a")) // 2: the bit, the inode, the name
	for _, b := range []int{1, 2, 4} {
		want := []int{0, b}
		if got := m.FS().Volume().Ready(); !slices.Equal(got, want) {
			t.Fatal(got, want)
		}
		sendBlocks(t, m, b)
		does(t, m, done(0))
	}

	calls(t, m, write(0, 0, []byte("x")), unlink("/a")) // 3
	refuses(t, m, api.ErrAbsent, call(stat("/a")))
	if a := calls(t, m, read(0, 0, 9)); string(a.Bytes) != "x" {
		t.Fatal(a)
	}
	calls(t, m, closed(0))
	if image, _ := mkfs.Make(small); !bytes.Equal(now(t, m)[2], image[2]) || !bytes.Equal(now(t, m)[1], image[1]) {
		t.Fatal("it is not freed at the last close")
	}

	calls(t, m, create("/b"), write(0, 100, bytes.Repeat([]byte{7}, 200)), synced(), write(0, 100, bytes.Repeat([]byte{8}, 200))) // 4
	does(t, m, send(0), crashed(1))
	calls(t, m, opened("/b"))
	for i, x := range calls(t, m, read(0, 0, 999)).Bytes {
		if (i < 100) != (x == 0) {
			t.Fatal(i, x)
		}
	}

	refuses(t, m, api.ErrSpace, call(write(0, 0, make([]byte, 40*api.Size)))) // 5
	calls(t, m, mkdir("/d"))
	refuses(t, m, api.ErrLoop, call(rename("/d", "/d/e"))) // 6
	refuses(t, m, api.ErrArg, forged(api.Request{Kind: api.FreeInode, N: api.Root}))
	does(t, m, snapped(9))
	refuses(t, m, api.ErrArg, forged(api.Request{Kind: api.FreeInode, N: api.Root, Gen: 1})) // 8

	way := m.FS().Volume().Ready()[0] // 9
	does(t, m, send(0), failed(0))
	if !slices.Contains(m.FS().Volume().Ready(), way) {
		t.Fatal("it does not stay to be written")
	}
	calls(t, m, synced())

	_, e := m.Disk().Write(0, make([]byte, api.Size)) // 10
	answers(t, api.OK, e)
	tells(t, m, api.ErrMagic, crashed(1))
}

// TestP23_4Example7: a leaked inode is free again. (And the chapter's own
// example.)
func TestP23_4Example7(t *testing.T) {
	m := fresh(t, small)
	calls(t, m, create("/a"))
	sendBlocks(t, m, 1, 0)
	does(t, m, crashed(1))
	if found := leaks(t, now(t, m)); !slices.Equal(found.Inodes, []int{3}) {
		t.Fatal(found)
	}
	does(t, m, snapped(9))
	checkAll(t, m)
	does(t, m, adjusted())
	if !clean(leaks(t, now(t, m))) {
		t.Fatal("it is not free")
	}

	m = fresh(t, small)
	calls(t, m, create("/a"))
	for range 4 { // the mount's own block, too
		does(t, m, send(0), done(0))
	}
	does(t, m, crashed(0))
	if a := calls(t, m, stat("/a")); a.Mode != api.ModeFile {
		t.Fatal(a)
	}
}

// TestP23_4SyncFails: where the disk fails, sync tells ErrIO, and what was not
// written stays to be.
func TestP23_4SyncFails(t *testing.T) {
	m := fresh(t, api.Geom{Groups: 8, Blocks: 24, Inodes: 8})
	calls(t, m, create("/a"))
	now(t, m)
	answers(t, api.OK, m.Disk().Fail(1, 1))
	x := tree.New()
	x.Do(create("/a"))
	tells(t, m, api.ErrIO, call(synced()))
	if !slices.Contains(m.FS().Volume().Ready(), 1) {
		t.Fatal("it does not stay to be written")
	}
	calls(t, m, synced())
	if !sameImage(m.Disk().Image(), now(t, m)) || !treeOf(t, m.Disk().Image()).Same(x) {
		t.Fatal("not all is on the disk")
	}
}
