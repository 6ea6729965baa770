package audit

import (
	"bytes"
	"math/rand"
	"slices"
	"testing"

	"bollard/adjust"
	"bollard/api"
	"bollard/crash"
	"bollard/geom"
	"bollard/scan"
	"bollard/sched"
	"bollard/tree"
)

// run has users, writes, checkers and crashes play on a machine, beside a tree:
// P1 to P4 and P6, as an audit shows them.
type run struct {
	t       *testing.T
	source  *rand.Rand
	m       *sched.Machine
	x       *tree.Tree // what users have made; nil, if a crash left what no tree has
	crashes int
	images  int
	twice   int // images of directories with two names
}

func newRun(t *testing.T, seed int64) *run {
	t.Helper()
	all := []api.Geom{small, {Groups: 3, Blocks: 24, Inodes: 8}, {Groups: 1, Blocks: 64, Inodes: 32}, {Groups: 2, Blocks: 40, Inodes: 16}}
	m, e := sched.New(all[seed%4])
	answers(t, api.OK, e)
	return &run{t: t, source: rand.New(rand.NewSource(seed)), m: m, x: tree.New()}
}

func (r *run) now() [][]byte {
	r.t.Helper()
	image, e := adjust.Image(r.m.FS().Volume())
	answers(r.t, api.OK, e)
	return image
}

func (r *run) path() string {
	path := ""
	for range []int{1, 1, 2, 2, 3}[r.source.Intn(5)] {
		path += "/" + string(rune('a'+r.source.Intn(4)))
	}
	return path
}

// call makes a user's call of the machine and of the tree: they tell the same,
// unless there is no room.
func (r *run) call(c api.Call) {
	r.t.Helper()
	a, e := r.m.Do(api.Step{Kind: api.StepCall, Call: c})
	if r.x == nil || e == api.ErrSpace {
		return
	}
	twin := r.x.Copy()
	want, why := twin.Do(c)
	if r.crashes > 0 { // a crash may leave more links than there are
		if e == api.ErrState {
			return
		}
		a.Links, want.Links = 0, 0
	}
	if e != why || a.N != want.N || !bytes.Equal(a.Bytes, want.Bytes) || !slices.Equal(a.Names, want.Names) || a.Mode != want.Mode || a.Links != want.Links || a.Size != want.Size {
		r.t.Fatal(c, a, e, "and not", want, why)
	}
	r.x = twin
}

func (r *run) user() {
	r.t.Helper()
	path, other, fd := r.path(), r.path(), r.source.Intn(4)
	content := bytes.Repeat([]byte{byte(1 + r.source.Intn(255))}, r.source.Intn(300))
	all := []api.Call{
		{Kind: api.CallMkdir, Path: path}, {Kind: api.CallMkdir, Path: other}, {Kind: api.CallCreate, Path: path}, {Kind: api.CallOpen, Path: path}, {Kind: api.CallClose, FD: fd},
		{Kind: api.CallRead, FD: fd, N: 2000}, {Kind: api.CallWrite, FD: fd, Off: r.source.Intn(1500), Bytes: content}, {Kind: api.CallTruncate, FD: fd, N: r.source.Intn(1500)},
		{Kind: api.CallUnlink, Path: path}, {Kind: api.CallRmdir, Path: path}, {Kind: api.CallRename, Path: path, Other: other}, {Kind: api.CallRename, Path: other, Other: path},
		{Kind: api.CallLink, Path: path, Other: other}, {Kind: api.CallStat, Path: path}, {Kind: api.CallList, Path: path},
	}
	r.call(all[r.source.Intn(len(all))])
}

func (r *run) sync() {
	r.t.Helper()
	_, e := r.m.Do(api.Step{Kind: api.StepCall, Call: api.Call{Kind: api.CallSync}})
	answers(r.t, api.OK, e)
	if r.x != nil {
		answers(r.t, api.OK, Held(r.m.Disk().Image(), r.x))
	}
}

// look holds an image: all that is told of it, and P26.4.
func (r *run) look(image [][]byte) *tree.Tree {
	r.t.Helper()
	answers(r.t, api.OK, scan.Accept(image))
	g, _ := scan.Geom(image)
	r.images++
	x := told(r.t, &world{g: g, image: image})
	if x == nil {
		r.twice++
	}
	c, e := Count(image)
	if e != api.OK || c.Blocks+c.FreeBlocks != geom.Room(g) {
		r.t.Fatal(c, e)
	}
	return x
}

// crash tries each image that it can leave, and has one of them.
func (r *run) crash() {
	r.t.Helper()
	images := crash.Images(r.m.Disk(), 32)
	for _, image := range images {
		r.look(image)
	}
	mask := r.source.Intn(len(images))
	_, e := r.m.Do(api.Step{Kind: api.StepCrash, Mask: uint64(mask)})
	answers(r.t, api.OK, e)
	r.crashes++
	r.x, e = Tree(r.now())
	if e != api.OK {
		answers(r.t, api.ErrAudit, e)
	}
	if x, _ := Tree(images[mask]); !x.Same(r.x) {
		r.t.Fatal("it is another image")
	}
}

// recover has all of a crash's leaks freed: users have the same.
func (r *run) recover() {
	r.t.Helper()
	r.m.Do(api.Step{Kind: api.StepDrop})
	_, e := r.m.Do(api.Step{Kind: api.StepSnap, N: 9999})
	answers(r.t, api.OK, e)
	for r.m.Snap() {
		_, e := r.m.Do(api.Step{Kind: api.StepCheck})
		answers(r.t, api.OK, e)
	}
	for range r.m.Asked() {
		r.m.Do(api.Step{Kind: api.StepAdjust})
	}
	if r.x != nil {
		answers(r.t, api.OK, Held(r.now(), r.x))
	}
	c, e := Count(r.now())
	if open := len(r.m.FS().Open()); e != api.OK || c.LostBlocks > 0 || c.LostInodes > open {
		r.t.Fatal(c, e, open)
	}
}

func (r *run) step() {
	r.t.Helper()
	switch n := r.source.Intn(40); {
	case n < 22:
		r.user()
	case n < 31:
		r.m.Do(api.Step{Kind: api.StepWrite, N: r.source.Intn(9)})
	case n < 34:
		r.m.Do(api.Step{Kind: api.StepComplete, N: r.source.Intn(9)})
	case n < 35:
		r.m.Do(api.Step{Kind: api.StepFail, N: r.source.Intn(9)})
	case n < 36:
		r.m.Do(api.Step{Kind: api.StepSnap, N: r.source.Intn(30)})
	case n < 38:
		r.m.Do(api.Step{Kind: api.StepCheck})
	case n < 39 && r.source.Intn(5) == 0:
		r.sync()
	case n < 40 && r.source.Intn(6) == 0:
		r.crash()
		r.recover()
	}
}

// TestP26_5Machine: at any time the image now is held against what calls mean;
// what is on the disk, and whatever a crash can leave, is told as the chapter
// says.
func TestP26_5Machine(t *testing.T) {
	var all run
	for seed := range int64(80) {
		r := newRun(t, seed)
		for range 250 {
			r.step()
			if r.source.Intn(4) == 0 && r.x != nil {
				answers(t, api.OK, Held(r.now(), r.x))
			}
			if r.source.Intn(10) == 0 {
				r.look(r.now())
				r.look(r.m.Disk().Image())
			}
		}
		all.crashes, all.images, all.twice = all.crashes+r.crashes, all.images+r.images, all.twice+r.twice
	}
	if all.crashes < 80 || all.images < 3000 || all.twice < 3 {
		t.Fatal(all.crashes, all.images, all.twice)
	}
}

// TestP26_2Moved: a crash in the middle of a directory's move leaves it both its
// names, and no tree has that; the checker can't take one of them away.
func TestP26_2Moved(t *testing.T) {
	m, e := sched.New(small)
	answers(t, api.OK, e)
	does := func(s api.Step) {
		t.Helper()
		_, e := m.Do(s)
		answers(t, api.OK, e)
	}
	user := func(c api.Call) {
		t.Helper()
		does(api.Step{Kind: api.StepCall, Call: c})
	}
	user(api.Call{Kind: api.CallMkdir, Path: "/a"})
	user(api.Call{Kind: api.CallMkdir, Path: "/a/d"})
	user(api.Call{Kind: api.CallMkdir, Path: "/b"})
	user(api.Call{Kind: api.CallSync})
	was, e := Tree(m.Disk().Image())
	answers(t, api.OK, e)
	user(api.Call{Kind: api.CallRename, Path: "/a/d", Other: "/b/d"})
	is, e := Tree(must(t, m))
	answers(t, api.OK, e)
	both := 0
	for len(m.FS().Volume().Ready()) > 0 {
		does(api.Step{Kind: api.StepWrite})
		does(api.Step{Kind: api.StepComplete})
		image := m.Disk().Image()
		answers(t, api.OK, scan.Accept(image))
		switch x, e := Tree(image); {
		case e == api.ErrAudit:
			both++
			answers(t, api.ErrAudit, Held(image, was))
			answers(t, api.ErrAudit, Held(image, is))
		case both == 0:
			if !x.Same(was) {
				t.Fatal(x.Paths())
			}
		case !x.Same(is):
			t.Fatal(x.Paths())
		}
	}
	answers(t, api.OK, Held(m.Disk().Image(), is))
	if both == 0 {
		t.Fatal("it never had both")
	}
}

// must is the image now.
func must(t *testing.T, m *sched.Machine) [][]byte {
	t.Helper()
	image, e := adjust.Image(m.FS().Volume())
	answers(t, api.OK, e)
	return image
}
