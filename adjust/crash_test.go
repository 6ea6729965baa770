package adjust

import (
	"math/rand"
	"reflect"
	"slices"
	"strconv"
	"testing"

	"bollard/alloc"
	"bollard/api"
	"bollard/check"
	"bollard/dirs"
	"bollard/disk"
	"bollard/file"
	"bollard/inode"
	"bollard/mkfs"
	"bollard/names"
	"bollard/scan"
	"bollard/snap"
	"bollard/volume"
)

// machine is a disk with users, whose calls are patched in an order that a
// crash can't hurt; what they leave is checked and adjusted while they go on.
type machine struct {
	t      *testing.T
	source *rand.Rand
	d      *disk.Disk
	v      *volume.Volume
	g      api.Geom
	open   []int
}

func newMachine(t *testing.T, seed int64) *machine {
	m := &machine{t: t, source: rand.New(rand.NewSource(seed))}
	image, e := mkfs.Make(api.Geom{Groups: 2, Blocks: 24, Inodes: 8})
	answers(t, api.OK, e)
	m.d, e = disk.Of(image)
	answers(t, api.OK, e)
	m.mount()
	return m
}

func (m *machine) mount() {
	m.t.Helper()
	var e api.Errno
	m.v, m.g, e = mkfs.Mount(m.d)
	answers(m.t, api.OK, e)
	m.open = nil
}

// user makes a call: all of it, or nothing.
func (m *machine) user() {
	m.t.Helper()
	last := m.v.Last()
	calls := []func() api.Errno{m.create, m.create, m.mkdir, m.unlink, m.unlink, m.link, m.write, m.write, m.close}
	e := calls[m.source.Intn(len(calls))]()
	switch e {
	case api.OK:
	case api.ErrSpace, api.ErrExists, api.ErrAbsent:
		answers(m.t, api.OK, m.v.Undo(last))
	default:
		m.t.Fatal(e)
	}
}

func (m *machine) anyName() string {
	return "n" + strconv.Itoa(m.source.Intn(9))
}

// anyDir is the root, or a directory in it.
func (m *machine) anyDir() int {
	l, e := names.List(m.v, m.g, 2)
	answers(m.t, api.OK, e)
	out := []int{2}
	for _, one := range l {
		if d, e := inode.Get(m.v, m.g, one.Ino); e == api.OK && d.Mode == api.ModeDir && one.Name != "." && one.Name != ".." {
			out = append(out, one.Ino)
		}
	}
	return out[m.source.Intn(len(out))]
}

func (m *machine) create() api.Errno {
	ino, a, e := alloc.Inode(m.v, m.g, m.source.Intn(2), false)
	if e != api.OK {
		return e
	}
	i, e := inode.Put(m.v, m.g, ino, api.Dinode{Mode: api.ModeFile, Links: 1}, []int{a})
	if e != api.OK {
		return e
	}
	_, e = names.Add(m.v, m.g, m.anyDir(), entry(ino, m.anyName()), []int{i})
	if e == api.OK && m.source.Intn(2) == 0 {
		m.open = append(m.open, ino)
	}
	return e
}

func (m *machine) mkdir() api.Errno {
	root, e := inode.Get(m.v, m.g, 2)
	answers(m.t, api.OK, e)
	root.Links++
	l, e := inode.Put(m.v, m.g, 2, root, nil)
	answers(m.t, api.OK, e)
	ino, a, e := alloc.Inode(m.v, m.g, 0, true)
	if e != api.OK {
		return e
	}
	at, b, e := alloc.Block(m.v, m.g, ino/m.g.Inodes, nil)
	if e != api.OK {
		return e
	}
	page, e := dirs.Encode([]api.Entry{entry(ino, "."), entry(2, "..")})
	answers(m.t, api.OK, e)
	p, e := m.v.Change(at, 0, page, []int{b})
	answers(m.t, api.OK, e)
	i, e := inode.Put(m.v, m.g, ino, api.Dinode{Mode: api.ModeDir, Links: 2, Size: 128, Direct: [4]int{at}}, []int{a, p})
	answers(m.t, api.OK, e)
	_, e = names.Add(m.v, m.g, 2, entry(ino, m.anyName()), []int{i, l})
	return e
}

// anyFile is a file that has a name: the directory, the name, the inode.
func (m *machine) anyFile() (int, string, int, api.Dinode, bool) {
	dir := m.anyDir()
	l, e := names.List(m.v, m.g, dir)
	answers(m.t, api.OK, e)
	one := l[m.source.Intn(len(l))]
	d, e := inode.Get(m.v, m.g, one.Ino)
	answers(m.t, api.OK, e)
	return dir, one.Name, one.Ino, d, d.Mode == api.ModeFile
}

func (m *machine) unlink() api.Errno {
	dir, name, ino, d, some := m.anyFile()
	if !some {
		return api.OK
	}
	c, e := names.Remove(m.v, m.g, dir, name, nil)
	answers(m.t, api.OK, e)
	d.Links--
	if d.Links > 0 || slices.Contains(m.open, ino) {
		_, e = inode.Put(m.v, m.g, ino, d, []int{c})
	} else {
		_, e = inode.Clear(m.v, m.g, ino, []int{c})
	}
	return e
}

func (m *machine) link() api.Errno {
	_, _, ino, d, some := m.anyFile()
	if !some {
		return api.OK
	}
	d.Links++
	l, e := inode.Put(m.v, m.g, ino, d, nil)
	answers(m.t, api.OK, e)
	_, e = names.Add(m.v, m.g, m.anyDir(), entry(ino, m.anyName()), []int{l})
	return e
}

func (m *machine) write() api.Errno {
	if len(m.open) == 0 {
		return api.OK
	}
	ino := m.open[m.source.Intn(len(m.open))]
	_, e := file.Write(m.v, m.g, ino, m.source.Intn(700), []byte{byte(m.source.Intn(256)), 1, 2})
	return e
}

func (m *machine) close() api.Errno {
	if len(m.open) == 0 {
		return api.OK
	}
	k := m.source.Intn(len(m.open))
	ino := m.open[k]
	d, e := inode.Get(m.v, m.g, ino)
	answers(m.t, api.OK, e)
	m.open = slices.Delete(m.open, k, k+1)
	if d.Links == 0 {
		_, e = inode.Clear(m.v, m.g, ino, nil)
	}
	return e
}

// flush sends a block to the disk, or completes a write: what is on the disk
// then is accepted, so that a crash may come.
func (m *machine) flush() {
	m.t.Helper()
	if ready := m.v.Ready(); len(ready) > 0 && m.source.Intn(2) == 0 {
		answers(m.t, api.OK, m.v.Write(ready[m.source.Intn(len(ready))]))
	}
	if n := len(m.v.Way()); n > 0 && m.source.Intn(2) == 0 {
		answers(m.t, api.OK, m.v.Complete(m.source.Intn(n), true))
		answers(m.t, api.OK, scan.Accept(m.d.Image()))
	}
}

func (m *machine) crash() {
	m.t.Helper()
	var done []int
	for _, w := range m.d.Queue() {
		if m.source.Intn(2) == 0 {
			done = append(done, w.ID)
		}
	}
	answers(m.t, api.OK, m.d.Crash(done))
	answers(m.t, api.OK, scan.Accept(m.d.Image()))
	m.mount()
}

// adjusted does a request, which was asked, or forged: the tree is the same.
func (m *machine) adjusted(r api.Request, gen int) bool {
	m.t.Helper()
	was := treeOf(m.t, now(m.t, m.v), m.g)
	_, e := Do(m.v, m.g, m.open, r, gen)
	is := now(m.t, m.v)
	answers(m.t, api.OK, scan.Accept(is))
	if !reflect.DeepEqual(treeOf(m.t, is, m.g), was) {
		m.t.Fatal(r, "the tree is another one")
	}
	for _, ino := range m.open {
		if d, e := inode.Get(m.v, m.g, ino); e != api.OK || d.Mode != api.ModeFile {
			m.t.Fatal(r, "an open file is gone")
		}
	}
	return e == api.OK
}

// recover checks a snapshot, and adjusts what is asked, while users go on.
func (m *machine) recover(gen int) (granted int) {
	m.t.Helper()
	s, e := snap.Take(m.v, m.g, gen, 99)
	answers(m.t, api.OK, e)
	c, e := check.New(s)
	answers(m.t, api.OK, e)
	var asked []api.Request
	for !c.Done() || len(asked) > 0 {
		switch m.source.Intn(5) {
		case 0:
			m.user()
		case 1:
			m.flush()
		case 2:
			forged := api.Request{Kind: 1 + m.source.Intn(3), N: m.source.Intn(50), Gen: gen}
			m.adjusted(forged, gen)
		case 3:
			if !c.Done() {
				l, e := c.Step()
				answers(m.t, api.OK, e)
				asked = append(asked, l...)
			}
		case 4:
			if len(asked) > 0 {
				if m.adjusted(asked[0], gen) {
					granted++
				}
				asked = asked[1:]
			}
		}
	}
	answers(m.t, api.OK, s.Drop())
	return granted
}

// TestP20_4AfterCrashes: what a crash leaves is freed while users go on, and
// nothing else: neither what has a name, nor what is open, nor what a patch
// leads to.
func TestP20_4AfterCrashes(t *testing.T) {
	granted := 0
	for seed := range int64(60) {
		m := newMachine(t, seed)
		for gen := 1; gen < 5; gen++ {
			for range 60 {
				m.user()
				m.flush()
				m.flush()
			}
			m.crash()
			granted += m.recover(gen)
			l, e := scan.Leaks(now(t, m.v))
			answers(t, api.OK, e)
			isOpen := func(ino int) bool { return slices.Contains(m.open, ino) }
			if l.Inodes = slices.DeleteFunc(l.Inodes, isOpen); len(l.Blocks)+len(l.Inodes)+len(l.Links) != 0 {
				t.Fatal(seed, gen, l)
			}
		}
	}
	if granted < 100 {
		t.Fatal(granted)
	}
}
