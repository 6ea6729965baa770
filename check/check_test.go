package check

import (
	"math"
	"reflect"
	"slices"
	"testing"

	"bollard/api"
	"bollard/mkfs"
	"bollard/snap"
)

func TestP19_1New(t *testing.T) {
	for _, g := range []api.Geom{
		{Groups: 1, Blocks: 8, Inodes: 4}, village, {Groups: 8, Blocks: 8, Inodes: 4}, {Groups: 1, Blocks: 256, Inodes: 64}, {Groups: 8, Blocks: 256, Inodes: 64},
	} {
		_, _, s := taken(t, newWorld(g), 1, 0, 1)
		c := begun(t, s)
		if c.Pass() != 1 || c.Done() || c.Steps() != 3*g.Groups*g.Inodes+g.Groups {
			t.Fatal(c.Pass(), c.Done(), c.Steps())
		}
		if len(run(t, begun(t, s))) != 2*g.Groups*g.Inodes-1+g.Groups || c.Pass() != 1 || c.Done() { // each checker has its own steps
			t.Fatal(c.Pass(), c.Done())
		}
	}
}

func TestP19_1NewRefuses(t *testing.T) {
	refused := func(s *snap.Snap, want api.Errno) {
		t.Helper()
		if c, e := New(s); c != nil || e != want {
			t.Fatal(c, e, want)
		}
	}
	refused(nil, api.ErrNil)
	refused(&snap.Snap{}, api.ErrNil)
	_, v, s := taken(t, hamlet(), 1, 0, 4)
	answers(t, api.OK, s.Drop())
	refused(s, api.ErrGone)
	other, e := snap.Take(v, village, 2, 0)
	answers(t, api.OK, e)
	refused(s, api.ErrGone) // though the volume has one again
	begun(t, other)
	_, e = v.Change(9, 0, []byte{1}, nil)
	answers(t, api.OK, e)
	if !other.Broken() {
		t.Fatal("it is not broken")
	}
	answers(t, api.OK, other.Drop())
	refused(other, api.ErrGone)
}

// TestP19_1NewReadsNothing: whether blocks can be read plays no part, and their
// failures stay.
func TestP19_1NewReadsNothing(t *testing.T) {
	w := hamlet()
	d, v, s := taken(t, w, 1, 0, api.MaxCache)
	for b := range w.image {
		answers(t, api.OK, d.Fail(b, 1))
	}
	begun(t, s)
	for b := range w.image {
		if _, e := v.Read(b); e != api.ErrIO {
			t.Fatal(b, e)
		}
	}
}

// TestP19_1NewBroken: of one that is broken, or whose volume is frozen no more,
// there is a checker; its steps tell that.
func TestP19_1NewBroken(t *testing.T) {
	_, v, s := taken(t, hamlet(), 1, 0, 4)
	_, e := v.Change(9, 0, []byte{1}, nil)
	answers(t, api.OK, e)
	c := begun(t, s)
	refuses(t, c, api.ErrState)
	_, v, s = taken(t, hamlet(), 1, 9, 4)
	answers(t, api.OK, v.Thaw())
	c = begun(t, s)
	refuses(t, c, api.ErrState)
	if c.Pass() != 1 {
		t.Fatal(c.Pass())
	}
}

// TestP19NoChecker: one that no call made is done, without a step.
func TestP19NoChecker(t *testing.T) {
	for _, c := range []*Checker{nil, {}, new(Checker)} {
		for range 2 {
			if c.Pass() != 0 || !c.Done() || c.Steps() != 0 {
				t.Fatal(c.Pass(), c.Done(), c.Steps())
			}
			refuses(t, c, api.ErrNil)
		}
	}
}

func TestP19_2Asks(t *testing.T) {
	for _, gen := range []int{1, 7, 1 << 40} {
		_, _, s := taken(t, lost(), gen, 0, 4)
		l := run(t, begun(t, s))
		if got := asked(l); !slices.Equal(got, wanted(gen)) {
			t.Fatal(got)
		}
		if got := passes(t, l); got != [5]int{0, 16, 4, 14, 2} {
			t.Fatal(got)
		}
		for _, x := range []struct{ step, many int }{ // each is asked in the step of its inode, or of its group
			{20, 1}, {21, 1}, {22, 1}, {23, 0}, {24, 0}, {25, 1}, {29, 1}, {30, 1}, {31, 1}, {32, 1}, {33, 0}, {34, 1}, {35, 2},
		} {
			if len(l[x.step].asked) != x.many {
				t.Fatal(x, l[x.step].asked)
			}
		}
	}
}

func TestP19_2Example(t *testing.T) {
	w := newWorld(api.Geom{Groups: 1, Blocks: 32, Inodes: 8})
	l := run(t, ofWorld(t, w))
	if got := passes(t, l); got != [5]int{0, 8, 1, 6, 1} || len(asked(l)) != 0 {
		t.Fatal(got, asked(l))
	}
}

// TestP19_2Done: behind its last step it is done, whatever becomes of the
// snapshot.
func TestP19_2Done(t *testing.T) {
	d, v, s := taken(t, lost(), 1, 0, 1)
	c := begun(t, s)
	run(t, c)
	refuses(t, c, api.ErrDone)
	for b := range d.Blocks() {
		answers(t, api.OK, d.Fail(b, 1))
	}
	refuses(t, c, api.ErrDone)
	for b := range d.Blocks() {
		answers(t, api.OK, d.Fail(b, 0))
	}
	_, e := v.Change(9, 0, []byte{1}, nil)
	answers(t, api.OK, e)
	refuses(t, c, api.ErrDone) // broken
	answers(t, api.OK, s.Drop())
	refuses(t, c, api.ErrDone) // dropped
	if c.Pass() != 0 || !c.Done() || c.Steps() != 50 {
		t.Fatal(c.Pass(), c.Done(), c.Steps())
	}
}

// TestP19_2OnTheWay: a snapshot that is dropped, breaks, or is frozen no more,
// ahead of whichever step: each step tells that from then on.
func TestP19_2OnTheWay(t *testing.T) {
	w := lost()
	all := len(run(t, ofWorld(t, w)))
	for gone := range all {
		for _, buffers := range []int{1, api.MaxCache} {
			for how, want := range []api.Errno{api.ErrGone, api.ErrState, api.ErrState} {
				_, v, s := taken(t, w, 1, 0, buffers)
				c := begun(t, s)
				for range gone {
					stepped(t, c)
				}
				switch how {
				case 0:
					answers(t, api.OK, s.Drop())
				case 1:
					_, e := v.Change(0, 0, []byte{1}, nil)
					answers(t, api.OK, e)
				case 2:
					answers(t, api.OK, v.Thaw())
				}
				for range 2 {
					refuses(t, c, want)
				}
			}
		}
	}
}

// TestP19_2AnotherSnapshot: a checker has the one that it was given.
func TestP19_2AnotherSnapshot(t *testing.T) {
	_, v, s := taken(t, lost(), 1, 9, 4)
	c := begun(t, s)
	stepped(t, c)
	answers(t, api.OK, s.Drop())
	other, e := snap.Take(v, village, 2, 9)
	answers(t, api.OK, e)
	refuses(t, c, api.ErrGone)
	if got := asked(run(t, begun(t, other))); !slices.Equal(got, wanted(2)) {
		t.Fatal(got)
	}
	refuses(t, c, api.ErrGone)
}

// TestP19_2Memory: an answer is nobody else's.
func TestP19_2Memory(t *testing.T) {
	_, _, s := taken(t, lost(), 1, 0, 4)
	a, b := begun(t, s), begun(t, s)
	var got []api.Request
	for !a.Done() {
		mine, e := a.Step()
		answers(t, api.OK, e)
		got = append(got, mine...)
		mine = mine[:cap(mine)]
		for i := range mine {
			mine[i] = api.Request{Kind: math.MaxInt, N: math.MinInt}
		}
	}
	if !slices.Equal(got, wanted(1)) || !slices.Equal(asked(run(t, b)), wanted(1)) {
		t.Fatal(got)
	}
}

func TestP19_3Passes(t *testing.T) {
	c := ofWorld(t, lost())
	var l []int
	for !c.Done() {
		l = append(l, c.Pass())
		for range 3 { // asking changes nothing
			if c.Pass() != l[len(l)-1] || c.Done() || c.Steps() != 50 {
				t.Fatal(c.Pass(), c.Done(), c.Steps())
			}
		}
		stepped(t, c)
	}
	want := slices.Concat(slices.Repeat([]int{1}, 16), slices.Repeat([]int{2}, 4), slices.Repeat([]int{3}, 14), []int{4, 4})
	if !slices.Equal(l, want) || c.Pass() != 0 || c.Steps() != 50 {
		t.Fatal(l, c.Pass(), c.Steps())
	}
}

// TestP19_3NoDirectory: without a directory as the root there is no pass 2, and
// nothing is met.
func TestP19_3NoDirectory(t *testing.T) {
	for name, hurt := range map[string]func(w *world){
		"file":          func(w *world) { w.edit(2, func(d *api.Dinode) { d.Mode = api.ModeFile }) },
		"free":          func(w *world) { clear(w.raw(2)) },
		"not decoded":   func(w *world) { w.raw(2)[3] ^= 1 },
		"not allocated": func(w *world) { clear(w.raw(2)); w.inode(2, false) },
	} {
		w := lost()
		hurt(w)
		c := ofWorld(t, w)
		for range 15 {
			stepped(t, c)
		}
		if c.Pass() != 1 {
			t.Fatal(name, c.Pass())
		}
		stepped(t, c)
		if c.Pass() != 3 {
			t.Fatal(name, c.Pass())
		}
		l := run(t, c)
		var inodes, others []int
		for _, r := range asked(l) {
			if r.Kind == api.FreeInode {
				inodes = append(inodes, r.N)
			} else if r.Kind != api.FreeBlock {
				others = append(others, r.N)
			}
		}
		if got := passes(t, l); got != [5]int{0, 0, 0, 14, 2} || !slices.Equal(inodes, []int{3, 4, 5, 6, 7, 9, 10, 11, 12, 13, 14}) || len(others) != 0 {
			t.Fatal(name, got, inodes, others)
		}
	}
}

// TestP19_6Quiet: it changes nothing of the volume, of the disk, of the
// snapshot.
func TestP19_6Quiet(t *testing.T) {
	w := lost()
	d, v, s := taken(t, w, 1, 9, api.MaxCache)
	a, e := v.Change(50, 0, []byte{1}, nil)
	answers(t, api.OK, e)
	_, e = v.Change(51, 0, []byte{1}, []int{a})
	answers(t, api.OK, e)
	answers(t, api.OK, v.Write(50))
	state := func() []any {
		var now [][]byte
		for b := range v.Blocks() {
			bytes, e := v.Read(b)
			answers(t, api.OK, e)
			now = append(now, bytes)
		}
		image, e := s.Image()
		answers(t, api.OK, e)
		return []any{now, image, d.Image(), d.Queue(), v.Last(), v.Dirty(), v.Ready(), v.Way(), v.Pending(51), s.Kept(), s.Broken(), s.Gen(), s.Geom()}
	}
	was := state()
	for c := begun(t, s); !c.Done(); {
		stepped(t, c)
		if !reflect.DeepEqual(state(), was) {
			t.Fatal("something has changed in pass", c.Pass())
		}
	}
	answers(t, api.OK, s.Drop())
}

// TestP19Mounted: of a volume that was mounted.
func TestP19Mounted(t *testing.T) {
	d, _, _ := taken(t, lost(), 1, 0, 1)
	v, g, e := mkfs.Mount(d)
	answers(t, api.OK, e)
	s, e := snap.Take(v, g, 3, 0)
	answers(t, api.OK, e)
	if got := asked(run(t, begun(t, s))); !slices.Equal(got, wanted(3)) {
		t.Fatal(got)
	}
}
