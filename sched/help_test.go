package sched

import (
	"bytes"
	"reflect"
	"slices"
	"testing"

	"bollard/adjust"
	"bollard/api"
	"bollard/scan"
)

var (
	small = api.Geom{Groups: 1, Blocks: 32, Inodes: 8}
	wide  = api.Geom{Groups: 3, Blocks: 24, Inodes: 8}
)

func mkdir(path string) api.Call  { return api.Call{Kind: api.CallMkdir, Path: path} }
func create(path string) api.Call { return api.Call{Kind: api.CallCreate, Path: path} }
func opened(path string) api.Call { return api.Call{Kind: api.CallOpen, Path: path} }
func closed(fd int) api.Call      { return api.Call{Kind: api.CallClose, FD: fd} }
func unlink(path string) api.Call { return api.Call{Kind: api.CallUnlink, Path: path} }
func rmdir(path string) api.Call  { return api.Call{Kind: api.CallRmdir, Path: path} }
func stat(path string) api.Call   { return api.Call{Kind: api.CallStat, Path: path} }
func list(path string) api.Call   { return api.Call{Kind: api.CallList, Path: path} }
func fsync(fd int) api.Call       { return api.Call{Kind: api.CallFsync, FD: fd} }
func synced() api.Call            { return api.Call{Kind: api.CallSync} }
func truncate(fd, n int) api.Call { return api.Call{Kind: api.CallTruncate, FD: fd, N: n} }

func read(fd, off, n int) api.Call {
	return api.Call{Kind: api.CallRead, FD: fd, Off: off, N: n}
}

func write(fd, off int, b []byte) api.Call {
	return api.Call{Kind: api.CallWrite, FD: fd, Off: off, Bytes: b}
}

func rename(path, other string) api.Call {
	return api.Call{Kind: api.CallRename, Path: path, Other: other}
}

func link(path, other string) api.Call {
	return api.Call{Kind: api.CallLink, Path: path, Other: other}
}

func call(c api.Call) api.Step      { return api.Step{Kind: api.StepCall, Call: c} }
func send(n int) api.Step           { return api.Step{Kind: api.StepWrite, N: n} }
func done(n int) api.Step           { return api.Step{Kind: api.StepComplete, N: n} }
func failed(n int) api.Step         { return api.Step{Kind: api.StepFail, N: n} }
func snapped(room int) api.Step     { return api.Step{Kind: api.StepSnap, N: room} }
func checked() api.Step             { return api.Step{Kind: api.StepCheck} }
func adjusted() api.Step            { return api.Step{Kind: api.StepAdjust} }
func forged(r api.Request) api.Step { return api.Step{Kind: api.StepAdjust, Request: r} }
func crashed(mask uint64) api.Step  { return api.Step{Kind: api.StepCrash, Mask: mask} }
func dropped() api.Step             { return api.Step{Kind: api.StepDrop} }

func answers(t *testing.T, want, e api.Errno) {
	t.Helper()
	if e != want {
		t.Fatalf("%v, want %v", e, want)
	}
}

func fresh(t *testing.T, g api.Geom) *Machine {
	t.Helper()
	m, e := New(g)
	answers(t, api.OK, e)
	return m
}

// does makes steps that have no errors: the last one's answer.
func does(t *testing.T, m *Machine, steps ...api.Step) api.Answer {
	t.Helper()
	var a api.Answer
	for _, s := range steps {
		var e api.Errno
		if a, e = m.Do(s); e != api.OK {
			t.Fatalf("%+v: %v", s, e)
		}
	}
	return a
}

// calls makes users' calls that have no errors: the last one's answer.
func calls(t *testing.T, m *Machine, all ...api.Call) api.Answer {
	t.Helper()
	var a api.Answer
	for _, c := range all {
		a = does(t, m, call(c))
	}
	return a
}

// tells makes a step whose answer is the zero one, beside that error.
func tells(t *testing.T, m *Machine, want api.Errno, s api.Step) {
	t.Helper()
	if a, e := m.Do(s); e != want || !reflect.DeepEqual(a, api.Answer{}) {
		t.Fatalf("%+v: %v, %v; want %v", s, a, e, want)
	}
}

// state is all of a machine that a later step could tell. (Whether the volume is
// frozen is told by what it has kept.)
type state struct {
	image, disk  [][]byte
	queue        []api.Sent
	last         int
	open         []int
	pending      map[int][]int
	ready        []int
	snap, broken bool
	kept, pass   int
	asked, freed []api.Request
	taken        int
	fs           any
}

func stateOf(t *testing.T, m *Machine) state {
	t.Helper()
	s := state{
		disk: m.Disk().Image(), queue: m.Disk().Queue(), fs: m.FS(), taken: m.taken,
		snap: m.Snap(), asked: m.Asked(), freed: m.Freed(), pass: m.checker.Pass(),
	}
	if m.FS() == nil {
		return s
	}
	v := m.FS().Volume()
	s.image, s.open = now(t, m), m.FS().Open()
	s.last, s.ready, s.kept, s.broken = v.Last(), v.Ready(), v.Kept(), v.Broken()
	s.pending = map[int][]int{}
	for _, b := range v.Dirty() {
		s.pending[b] = v.Pending(b)
	}
	return s
}

// refuses makes a step that has an error: nothing has changed.
func refuses(t *testing.T, m *Machine, want api.Errno, s api.Step) {
	t.Helper()
	was := stateOf(t, m)
	tells(t, m, want, s)
	if is := stateOf(t, m); !reflect.DeepEqual(is, was) {
		t.Fatalf("%+v: something has changed: %+v, was %+v", s, is, was)
	}
}

// now is the image with all patches.
func now(t *testing.T, m *Machine) [][]byte {
	t.Helper()
	image, e := adjust.Image(m.FS().Volume())
	answers(t, api.OK, e)
	return image
}

// same tells whether two answers are the same; lists may be nil or empty.
func same(a, b api.Answer) bool {
	return a.N == b.N && bytes.Equal(a.Bytes, b.Bytes) && slices.Equal(a.Names, b.Names) &&
		a.Mode == b.Mode && a.Links == b.Links && a.Size == b.Size
}

func sameImage(a, b [][]byte) bool {
	return slices.EqualFunc(a, b, bytes.Equal)
}

func leaks(t *testing.T, image [][]byte) api.Found {
	t.Helper()
	l, e := scan.Leaks(image)
	answers(t, api.OK, e)
	return l
}

func clean(f api.Found) bool {
	return len(f.Blocks)+len(f.Inodes)+len(f.Links) == 0
}
