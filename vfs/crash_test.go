package vfs

import (
	"math/rand"
	"slices"
	"testing"

	"bollard/api"
	"bollard/disk"
	"bollard/scan"
)

const mostOnWay = 5 // so that each set of the writes on the way is tried

// machine is a file system that is used while blocks are written in any order,
// and crashes may come.
type machine struct {
	t      *testing.T
	source *rand.Rand
	f      *FS
	d      *disk.Disk
	log    []any
}

func newMachine(t *testing.T, seed int64, g api.Geom) *machine {
	f, d := fresh(t, g)
	return &machine{t: t, source: rand.New(rand.NewSource(seed)), f: f, d: d}
}

func (m *machine) accepts(image [][]byte) {
	m.t.Helper()
	if e := scan.Accept(image); e != api.OK {
		m.t.Fatal(e, m.log)
	}
}

// call makes one: the image now is accepted, whatever it tells.
func (m *machine) call(c api.Call) api.Errno {
	m.t.Helper()
	_, e := m.f.Do(c)
	if e == api.OK {
		m.log = append(m.log, c)
	}
	m.accepts(now(m.t, m.f))
	return e
}

// send sends a block to the disk: whatever set of the writes on the way a crash
// leaves, is accepted.
func (m *machine) send() {
	m.t.Helper()
	ready := m.f.Volume().Ready()
	queue := len(m.d.Queue())
	if len(ready) == 0 {
		if queue == 0 && len(m.f.Volume().Dirty()) > 0 {
			m.t.Fatal("nothing gets on", m.log)
		}
		return
	}
	if queue == mostOnWay {
		return
	}
	b := ready[m.source.Intn(len(ready))]
	answers(m.t, api.OK, m.f.Volume().Write(b))
	m.log = append(m.log, "write", b)
	for mask := range 1 << (queue + 1) {
		m.accepts(m.crashed(mask).Image())
	}
}

// crashed is the disk behind a crash, with a set of the writes done.
func (m *machine) crashed(mask int) *disk.Disk {
	m.t.Helper()
	var done []int
	for i, w := range m.d.Queue() {
		if mask>>i&1 == 1 {
			done = append(done, w.ID)
		}
	}
	d := m.d.Copy()
	answers(m.t, api.OK, d.Crash(done))
	return d
}

// complete has a write done, or fail now and then.
func (m *machine) complete() {
	m.t.Helper()
	if n := len(m.d.Queue()); n > 0 {
		k, ok := m.source.Intn(n), m.source.Intn(9) > 0
		m.log = append(m.log, "complete", m.d.Queue()[k].Block, ok)
		m.f.Volume().Complete(k, ok)
		m.accepts(m.d.Image())
	}
}

// crash has any set of the writes done, and mounts what is left.
func (m *machine) crash() {
	m.t.Helper()
	m.d = m.crashed(m.source.Intn(1 << mostOnWay))
	m.log = append(m.log, "crash")
	var e api.Errno
	m.f, e = Mount(m.d)
	answers(m.t, api.OK, e)
}

// drain writes all that there is.
func (m *machine) drain() {
	m.t.Helper()
	for len(m.f.Volume().Dirty()) > 0 {
		m.send()
		m.complete()
	}
	if !sameImage(m.d.Image(), now(m.t, m.f)) {
		m.t.Fatal("not all is on the disk", m.log)
	}
}

// moving is calls that move and take away most of the time.
func (m *machine) moving(depth, letters int) api.Call {
	kinds := []int{api.CallMkdir, api.CallMkdir, api.CallRename, api.CallRename, api.CallRename, api.CallRmdir, api.CallCreate, api.CallUnlink, api.CallLink, api.CallClose}
	path := func() string {
		out := ""
		for range 1 + m.source.Intn(depth) {
			out += "/" + string(rune('a'+m.source.Intn(letters)))
		}
		return out
	}
	return api.Call{Kind: kinds[m.source.Intn(len(kinds))], FD: m.source.Intn(3), Path: path(), Other: path()}
}

// go on makes steps of all kinds.
func (m *machine) goOn(steps int, next func() api.Call, crashes bool) {
	m.t.Helper()
	for range steps {
		switch r := m.source.Intn(40); {
		case r < 18:
			m.call(next())
		case r < 30:
			m.send()
		case r < 39:
			m.complete()
		case crashes && m.source.Intn(4) == 0:
			m.crash()
		}
	}
}

// TestP21_5AnyCalls: calls of all kinds.
func TestP21_5AnyCalls(t *testing.T) {
	for seed := range int64(60) {
		g := []api.Geom{small, wide, {Groups: 1, Blocks: 16, Inodes: 8}, {Groups: 4, Blocks: 40, Inodes: 16}}[seed%4]
		m := newMachine(t, seed, g)
		m.goOn(250, func() api.Call { return anyCall(m.source) }, seed%3 == 0)
		m.drain()
	}
}

// TestP21_5Moves: directories are moved and taken away, few names in few
// places.
func TestP21_5Moves(t *testing.T) {
	for seed := range int64(240) {
		g := []api.Geom{{Groups: 1, Blocks: 32, Inodes: 16}, wide, {Groups: 1, Blocks: 16, Inodes: 8}, {Groups: 4, Blocks: 40, Inodes: 16}}[seed%4]
		m := newMachine(t, seed, g)
		m.goOn(250, func() api.Call { return m.moving(3, 4) }, seed%3 == 0)
		m.drain()
	}
}

// TestP21_5ManyNames: directories of several blocks, so that names come and go
// in all of them.
func TestP21_5ManyNames(t *testing.T) {
	for seed := range int64(120) {
		g := []api.Geom{{Groups: 1, Blocks: 64, Inodes: 32}, {Groups: 4, Blocks: 40, Inodes: 16}}[seed%2]
		m := newMachine(t, seed, g)
		for letter := range 12 {
			m.call(create("/" + string(rune('a'+letter))))
			m.call(closed(0))
		}
		m.goOn(300, func() api.Call { return m.moving(1+m.source.Intn(2), 14) }, seed%3 == 0)
		m.drain()
	}
}

// TestP21_5Scripts: few calls, whose blocks are written in many orders, ahead of
// the next call or behind all.
func TestP21_5Scripts(t *testing.T) {
	for _, script := range [][]api.Call{
		{create("/a"), unlink("/a"), closed(0), create("/b")},
		{mkdir("/a"), mkdir("/b"), rename("/a", "/b/c")},
		{mkdir("/a"), mkdir("/b"), rename("/b", "/a/c")},
		{mkdir("/a"), mkdir("/a/b"), rename("/a/b", "/b"), rmdir("/a")},
		{mkdir("/a"), mkdir("/b"), mkdir("/a/x"), rename("/a/x", "/b/x"), rmdir("/a")},
		{mkdir("/a"), mkdir("/b"), rename("/a", "/b"), rmdir("/b")},
		{mkdir("/a"), mkdir("/b"), synced(), mkdir("/c"), rename("/a", "/c/a"), rename("/b", "/c/a/b")},
		{mkdir("/a"), mkdir("/a/x"), mkdir("/b"), synced(), rename("/a/x", "/b/x"), rename("/b/x", "/x"), rmdir("/b")},
		{mkdir("/a"), mkdir("/a/x"), mkdir("/b"), synced(), rename("/a/x", "/b/x"), rename("/b", "/a"), rmdir("/a/x")},
		{mkdir("/a"), mkdir("/b"), synced(), rename("/a", "/b/a"), rename("/b/a", "/a"), rename("/b", "/a/b")},
		{create("/z"), mkdir("/a"), mkdir("/b"), synced(), unlink("/z"), rename("/a", "/b/a"), mkdir("/a")},
		{create("/a"), write(0, 0, make([]byte, 700)), truncate(0, 100), rename("/a", "/b"), mkdir("/d"), rename("/b", "/d/b")},
	} {
		for seed := range int64(60) {
			m := newMachine(t, seed, []api.Geom{small, wide}[seed%2])
			for _, c := range script {
				answers(t, api.OK, m.call(c))
				for range m.source.Intn(8) * int(seed/2%2) {
					m.send()
					m.complete()
				}
			}
			m.drain()
		}
	}
}

// TestP21_5Forgotten: no more is kept from call to call than what is not on the
// disk.
func TestP21_5Forgotten(t *testing.T) {
	f, _ := fresh(t, small)
	does(t, f, mkdir("/a"), mkdir("/b"), create("/c"), unlink("/c"), rename("/a", "/b/a"))
	if len(f.trail.named) != 2 || len(f.trail.gone) != 2 || len(f.trail.moved) != 1 {
		t.Fatal(f.trail)
	}
	does(t, f, synced(), create("/d"))
	if len(f.trail.named) != 0 || len(f.trail.gone) != 0 {
		t.Fatal(f.trail)
	}
}

// TestP21_2TwoNames: a crash leaves a directory with both its names: it does
// not go, and all else does what it does.
func TestP21_2TwoNames(t *testing.T) {
	f, d := fresh(t, small)
	does(t, f, mkdir("/a"), mkdir("/b"), mkdir("/a/x"), synced(), rename("/a/x", "/b/y"))
	for len(f.Volume().Ready()) > 0 {
		b := f.Volume().Ready()[0]
		answers(t, api.OK, f.Volume().Write(b))
		answers(t, api.OK, f.Volume().Complete(0, true))
		was := d.Copy()
		f2, e := Mount(was)
		answers(t, api.OK, e)
		x, eX := f2.Do(stat("/a/x"))
		y, eY := f2.Do(stat("/b/y"))
		if eX != api.OK || eY != api.OK {
			continue
		}
		if x.Links != 3 || !same(x, y) {
			t.Fatal(x, y)
		}
		refuses(t, f2, api.ErrState, rmdir("/a/x"))
		refuses(t, f2, api.ErrState, rmdir("/b/y"))
		last := f2.Volume().Last()
		if does(t, f2, rename("/a/x", "/b/y"), rename("/b/y", "/a/x")); f2.Volume().Last() != last {
			t.Fatal("something has happened")
		}
		refuses(t, f2, api.ErrLoop, rename("/a/x", "/a/x/z"))
		does(t, f2, create("/a/x/f"))
		refuses(t, f2, api.ErrFull, rmdir("/a/x"))
		does(t, f2, rename("/a/x", "/z"), rename("/b/y", "/y"), unlink("/y/f"))
		if got := does(t, f2, stat("/z")); got.Links != 3 {
			t.Fatal(got)
		}
		accepted(t, now(t, f2))
		does(t, f2, rename("/z", "/b/z"), synced())
		accepted(t, was.Image())
		return
	}
	t.Fatal("it never had both")
}

// TestP21_2Wild: whatever an image's bytes are, calls end; with an error nothing
// has changed.
func TestP21_2Wild(t *testing.T) {
	f, d := fresh(t, wide)
	does(t, f, town()...)
	does(t, f, opened("/d/f"), write(0, 0, make([]byte, 900)), link("/a", "/d/l"), synced())
	good := d.Image()
	for seed := range int64(150) {
		source := rand.New(rand.NewSource(seed))
		image := make([][]byte, len(good))
		for i := range good {
			image[i] = slices.Clone(good[i])
		}
		for range 1 + source.Intn(12) {
			b := 1 + source.Intn(len(image)-1)
			switch source.Intn(3) {
			case 0:
				image[b][source.Intn(api.Size)] = byte(source.Intn(256))
			case 1:
				copy(image[b], image[source.Intn(len(image))])
			case 2:
				b = []int{1, 2, 3, 4, 5, 25, 28}[source.Intn(7)]
				image[b][source.Intn(api.Size)] ^= 1 << source.Intn(8)
			}
		}
		f, _ := mounted(t, image)
		for range 60 {
			c := anyCall(source)
			files, last := f.files, f.Volume().Last()
			a, e := f.Do(c)
			if e != api.OK && (f.files != files || f.Volume().Last() != last || !same(a, api.Answer{})) {
				t.Fatal(seed, c, a, e)
			}
		}
	}
}
