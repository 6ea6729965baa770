package sched

import (
	"math"
	"reflect"
	"slices"
	"testing"

	"bollard/api"
	"bollard/mkfs"
)

func TestP23_1New(t *testing.T) {
	for _, g := range []api.Geom{
		small, wide, {Groups: 1, Blocks: 8, Inodes: 4}, {Groups: 1, Blocks: 19, Inodes: 64},
		{Groups: api.MaxGroups, Blocks: api.MaxBlocks, Inodes: api.MaxInodes},
	} {
		m := fresh(t, g)
		image, e := mkfs.Make(g)
		answers(t, api.OK, e)
		if !sameImage(m.Disk().Image(), image) || len(m.Disk().Queue()) > 0 {
			t.Fatal(g, "it is not a new volume's disk")
		}
		if v := m.FS().Volume(); m.FS().Geom() != g || v.Last() != 1 || !slices.Equal(v.Ready(), []int{0}) {
			t.Fatal(g, "it is not just mounted")
		}
		if m.Snap() || len(m.Asked())+len(m.Freed())+len(m.FS().Open()) > 0 {
			t.Fatal(g, "something is there already")
		}
		if a := calls(t, m, stat("/")); a.Mode != api.ModeDir || a.Links != 2 {
			t.Fatal(g, a)
		}
	}
}

func TestP23_1NewRefuses(t *testing.T) {
	for _, g := range []api.Geom{
		{}, {Groups: 0, Blocks: 32, Inodes: 8}, {Groups: 9, Blocks: 32, Inodes: 8}, {Groups: -1, Blocks: 32, Inodes: 8},
		{Groups: 1, Blocks: 7, Inodes: 4}, {Groups: 1, Blocks: 257, Inodes: 8}, {Groups: 1, Blocks: 32, Inodes: 0},
		{Groups: 1, Blocks: 32, Inodes: 6}, {Groups: 1, Blocks: 250, Inodes: 68}, {Groups: 1, Blocks: 18, Inodes: 64},
		{Groups: math.MaxInt, Blocks: math.MaxInt, Inodes: math.MaxInt}, {Groups: math.MinInt, Blocks: math.MinInt, Inodes: math.MinInt},
	} {
		_, want := mkfs.Make(g)
		if m, e := New(g); m != nil || e != want || e == api.OK {
			t.Fatal(g, m, e, want)
		}
	}
}

// TestP23_3NoMachine: of one that no call made nothing is told.
func TestP23_3NoMachine(t *testing.T) {
	for _, m := range []*Machine{nil, {}} {
		for kind := -1; kind <= api.NumSteps; kind++ {
			tells(t, m, api.ErrNil, api.Step{Kind: kind, Call: mkdir("/a")})
		}
		if m.FS() != nil || m.Disk() != nil || len(m.Asked())+len(m.Freed()) > 0 || m.Snap() {
			t.Fatal("it tells something")
		}
	}
}

// TestP23_3FSAndDisk: these are the machine's own.
func TestP23_3FSAndDisk(t *testing.T) {
	m := fresh(t, small)
	f, d := m.FS(), m.Disk()
	calls(t, m, mkdir("/a"))
	if m.FS() != f || m.Disk() != d || d != m.Disk() {
		t.Fatal("they are others")
	}
	if a, e := f.Do(list("/")); e != api.OK || !slices.Equal(a.Names, []string{"a"}) {
		t.Fatal("it has not what the machine's calls made", a, e)
	}
	if _, e := f.Do(mkdir("/b")); e != api.OK {
		t.Fatal(e)
	}
	calls(t, m, stat("/b"))
	does(t, m, send(0))
	if len(d.Queue()) != 1 {
		t.Fatal("the write is not in its queue")
	}
	calls(t, m, synced())
	if !sameImage(d.Image(), now(t, m)) {
		t.Fatal("the disk has not what was synced")
	}
}

// leaky is a machine behind a crash that left two inodes, a block and a link of
// the root that nobody has: the header and the block of inodes reached the disk,
// the latter with the root's link alone.
func leaky(t *testing.T) *Machine {
	t.Helper()
	m := fresh(t, small)
	calls(t, m, create("/a"), mkdir("/d"))
	sendBlocks(t, m, 1, 2)
	does(t, m, crashed(math.MaxUint64))
	return m
}

// sendBlocks sends just these blocks, each of which must be ready.
func sendBlocks(t *testing.T, m *Machine, blocks ...int) {
	t.Helper()
	for _, b := range blocks {
		at := slices.Index(m.FS().Volume().Ready(), b)
		if at < 0 {
			t.Fatal(b, "is not ready:", m.FS().Volume().Ready())
		}
		does(t, m, send(at))
	}
}

// checkAll has a checker come to its end: what it asks.
func checkAll(t *testing.T, m *Machine) []api.Request {
	t.Helper()
	for m.Snap() {
		does(t, m, checked())
	}
	return m.Asked()
}

func TestP23_3AskedAndFreed(t *testing.T) {
	m := leaky(t)
	found := leaks(t, now(t, m))
	if len(found.Inodes) != 2 || len(found.Blocks) != 1 || len(found.Links) != 1 {
		t.Fatal(found)
	}
	does(t, m, snapped(99))
	want := []api.Request{
		{Kind: api.LowerLinks, N: 2, To: 2, Gen: 1},
		{Kind: api.FreeInode, N: found.Inodes[0], Gen: 1},
		{Kind: api.FreeInode, N: found.Inodes[1], Gen: 1},
		{Kind: api.FreeBlock, N: found.Blocks[0], Gen: 1},
	}
	asked := checkAll(t, m)
	if !slices.Equal(asked, want) {
		t.Fatal(asked, "and not", want)
	}
	for i := range want {
		if !slices.Equal(m.Asked(), want[i:]) || !slices.Equal(m.Freed(), want[:i]) {
			t.Fatal(m.Asked(), m.Freed())
		}
		does(t, m, adjusted())
	}
	if len(m.Asked()) != 0 || !slices.Equal(m.Freed(), want) || !clean(leaks(t, now(t, m))) {
		t.Fatal(m.Asked(), m.Freed(), leaks(t, now(t, m)))
	}
}

// TestP23_3Memory: what is told is nobody else's, what is handed in stays as it
// was.
func TestP23_3Memory(t *testing.T) {
	m := leaky(t)
	does(t, m, snapped(99))
	checkAll(t, m)
	does(t, m, adjusted(), adjusted())
	for _, tell := range []func() []api.Request{m.Asked, m.Freed} {
		was, other := slices.Clone(tell()), tell()
		spoiled := tell()
		spoiled = spoiled[:cap(spoiled)]
		for i := range spoiled {
			spoiled[i] = api.Request{Kind: 77}
		}
		if !slices.Equal(tell(), was) || !slices.Equal(other, was) {
			t.Fatal("it is shared")
		}
	}
	kept := m.Freed()
	does(t, m, adjusted())
	if len(kept) != 2 {
		t.Fatal("it has grown")
	}

	room := []byte("heyXX")
	s := call(write(0, 0, room[:3]))
	calls(t, m, create("/b"))
	does(t, m, s)
	if string(room) != "heyXX" {
		t.Fatal("what was handed in has changed", room)
	}
	copy(room, "spoil")
	a := calls(t, m, read(0, 0, 9))
	if string(a.Bytes) != "hey" {
		t.Fatal("what was handed in is kept", a)
	}
	clear(a.Bytes[:cap(a.Bytes)])
	if a = calls(t, m, read(0, 0, 9)); string(a.Bytes) != "hey" {
		t.Fatal("an answer is shared", a)
	}
}

// TestP23_5FromStepsAlone: the same steps have the same answers, and leave the
// same.
func TestP23_5FromStepsAlone(t *testing.T) {
	for seed := range int64(8) {
		g := []api.Geom{small, wide}[seed%2]
		p := newPlayer(t, seed, g)
		p.play(150, true)
		var told [2][]any
		var left [2]state
		for i := range told {
			m := fresh(t, g)
			for _, s := range p.steps {
				a, e := m.Do(s)
				told[i] = append(told[i], a, e, m.Snap(), m.Asked(), m.Freed())
			}
			left[i] = stateOf(t, m)
			left[i].fs = nil
		}
		if !reflect.DeepEqual(told[0], told[1]) || !reflect.DeepEqual(left[0], left[1]) {
			t.Fatal(seed, "two runs part")
		}
	}
}
