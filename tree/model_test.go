package tree

import (
	"bytes"
	"math/rand"
	"slices"
	"strings"
	"testing"

	"bollard/api"
	"bollard/dirs"
)

// thing is one of the model's: a directory, or a file.
type thing struct {
	dir   bool
	bytes []byte
}

// model is the chapter said again: a list of paths, which of them have one
// thing, and descriptors. All else is counted anew whenever it is asked.
type model struct {
	things map[string]*thing
	fds    [api.MaxFDs]*thing
}

func newModel() *model {
	return &model{things: map[string]*thing{"/": {dir: true}}}
}

func (m *model) paths() []string {
	var out []string
	for path := range m.things {
		out = append(out, path)
	}
	slices.Sort(out)
	return out
}

// upper is the directory that a path lies in.
func upper(path string) string {
	at := strings.LastIndexByte(path, '/')
	return path[:max(at, 1)]
}

// inside are the paths that lie in a directory.
func (m *model) inside(dir string) []string {
	return slices.DeleteFunc(m.paths(), func(path string) bool { return path == "/" || upper(path) != dir })
}

func (m *model) links(path string) int {
	n := 0
	if x := m.things[path]; !x.dir {
		for _, y := range m.things {
			if y == x {
				n++
			}
		}
		return n
	}
	for _, p := range m.inside(path) {
		if m.things[p].dir {
			n++
		}
	}
	return n + 2
}

// thing is "the thing" of a path.
func (m *model) thing(path string) (*thing, api.Errno) {
	names, e := dirs.Split(path)
	if e != api.OK {
		return nil, e
	}
	x, at := m.things["/"], ""
	for _, name := range names {
		if !x.dir {
			return nil, api.ErrNotDir
		}
		at += "/" + name
		if x = m.things[at]; x == nil {
			return nil, api.ErrAbsent
		}
	}
	return x, api.OK
}

// parent is "the parent" of a path: its path.
func (m *model) parent(path string) (string, api.Errno) {
	if _, _, e := dirs.Base(path); e != api.OK {
		return "", e
	}
	x, e := m.thing(upper(path))
	if e != api.OK {
		return "", e
	}
	if !x.dir {
		return "", api.ErrNotDir
	}
	return upper(path), api.OK
}

func (m *model) file(fd int) *thing {
	if fd < 0 || fd >= api.MaxFDs {
		return nil
	}
	return m.fds[fd]
}

// take has the lowest descriptor have a file.
func (m *model) take(x func() *thing) (api.Answer, api.Errno) {
	for fd := range m.fds {
		if m.fds[fd] == nil {
			m.fds[fd] = x()
			return api.Answer{N: fd}, api.OK
		}
	}
	return api.Answer{}, api.ErrMany
}

func (m *model) do(c api.Call) (api.Answer, api.Errno) {
	switch c.Kind {
	case api.CallMkdir, api.CallCreate:
		return m.new(c)
	case api.CallOpen, api.CallStat, api.CallList, api.CallUnlink, api.CallRmdir:
		return m.one(c)
	case api.CallRename, api.CallLink:
		return api.Answer{}, m.two(c)
	case api.CallSync:
		return api.Answer{}, api.OK
	case api.CallClose, api.CallRead, api.CallWrite, api.CallTruncate, api.CallFsync:
		x := m.file(c.FD)
		if x == nil {
			return api.Answer{}, api.ErrFD
		}
		return m.described(c, x)
	}
	return api.Answer{}, api.ErrArg
}

func (m *model) new(c api.Call) (api.Answer, api.Errno) {
	if c.Path == "/" {
		return api.Answer{}, api.ErrExists
	}
	dir, e := m.parent(c.Path)
	switch {
	case e != api.OK:
		return api.Answer{}, e
	case m.things[c.Path] != nil:
		return api.Answer{}, api.ErrExists
	case c.Kind == api.CallCreate:
		return m.take(func() *thing {
			m.things[c.Path] = &thing{}
			return m.things[c.Path]
		})
	case m.links(dir) == api.MaxLinks:
		return api.Answer{}, api.ErrLinks
	}
	m.things[c.Path] = &thing{dir: true}
	return api.Answer{}, api.OK
}

func (m *model) one(c api.Call) (api.Answer, api.Errno) {
	goes := c.Kind == api.CallUnlink || c.Kind == api.CallRmdir
	if goes && c.Path == "/" {
		return api.Answer{}, api.ErrArg
	}
	x, e := m.thing(c.Path)
	switch {
	case e != api.OK:
		return api.Answer{}, e
	case c.Kind == api.CallStat && x.dir:
		return api.Answer{Mode: api.ModeDir, Links: m.links(c.Path)}, api.OK
	case c.Kind == api.CallStat:
		return api.Answer{Mode: api.ModeFile, Links: m.links(c.Path), Size: len(x.bytes)}, api.OK
	case (c.Kind == api.CallList || c.Kind == api.CallRmdir) && !x.dir:
		return api.Answer{}, api.ErrNotDir
	case (c.Kind == api.CallOpen || c.Kind == api.CallUnlink) && x.dir:
		return api.Answer{}, api.ErrDir
	case c.Kind == api.CallOpen:
		return m.take(func() *thing { return x })
	case c.Kind == api.CallList:
		var names []string
		for _, path := range m.inside(c.Path) {
			names = append(names, path[strings.LastIndexByte(path, '/')+1:])
		}
		slices.Sort(names)
		return api.Answer{Names: names}, api.OK
	case x.dir && len(m.inside(c.Path)) > 0:
		return api.Answer{}, api.ErrFull
	}
	delete(m.things, c.Path)
	return api.Answer{}, api.OK
}

func (m *model) two(c api.Call) api.Errno {
	if c.Path == "/" {
		return api.ErrArg
	}
	x, e := m.thing(c.Path)
	if e != api.OK {
		return e
	}
	if c.Kind == api.CallLink && x.dir {
		return api.ErrDir
	}
	if c.Other == "/" {
		return api.ErrArg
	}
	dir, e := m.parent(c.Other)
	if e != api.OK {
		return e
	}
	y := m.things[c.Other]
	if c.Kind == api.CallLink {
		switch {
		case y != nil:
			return api.ErrExists
		case m.links(c.Path) == api.MaxLinks:
			return api.ErrLinks
		}
		m.things[c.Other] = x
		return api.OK
	}
	switch {
	case x.dir && strings.HasPrefix(dir+"/", c.Path+"/"):
		return api.ErrLoop
	case y == x:
		return api.OK
	case y != nil && x.dir && !y.dir:
		return api.ErrNotDir
	case y != nil && !x.dir && y.dir:
		return api.ErrDir
	case y != nil && y.dir && len(m.inside(c.Other)) > 0:
		return api.ErrFull
	case y == nil && x.dir && upper(c.Path) != dir && m.links(dir) == api.MaxLinks, m.links(c.Path) == api.MaxLinks:
		return api.ErrLinks
	}
	m.move(c.Path, c.Other)
	return api.OK
}

// move has all paths from one on begin otherwise.
func (m *model) move(from, to string) {
	for _, path := range m.paths() {
		if rest, below := strings.CutPrefix(path+"/", from+"/"); below {
			x := m.things[path]
			delete(m.things, path)
			m.things[strings.TrimSuffix(to+"/"+rest, "/")] = x
		}
	}
}

func (m *model) described(c api.Call, x *thing) (api.Answer, api.Errno) {
	grow := func(n int) {
		if n > len(x.bytes) {
			x.bytes = append(slices.Clone(x.bytes), make([]byte, n-len(x.bytes))...)
		}
	}
	switch {
	case c.Kind == api.CallClose:
		m.fds[c.FD] = nil
	case c.Kind == api.CallFsync:
	case c.Kind != api.CallTruncate && c.Off < 0, c.Kind != api.CallWrite && c.N < 0:
		return api.Answer{}, api.ErrArg
	case c.Kind == api.CallRead:
		b := x.bytes[min(c.Off, len(x.bytes)):]
		b = slices.Clone(b[:min(c.N, len(b))])
		return api.Answer{N: len(b), Bytes: b}, api.OK
	case c.Kind == api.CallWrite && c.Off+len(c.Bytes) > api.MaxFile, c.Kind == api.CallTruncate && c.N > api.MaxFile:
		return api.Answer{}, api.ErrBig
	case c.Kind == api.CallTruncate:
		grow(c.N)
		x.bytes = slices.Clone(x.bytes[:c.N])
	case len(c.Bytes) > 0:
		grow(c.Off + len(c.Bytes))
		copy(x.bytes[c.Off:], c.Bytes)
		return api.Answer{N: len(c.Bytes)}, api.OK
	}
	return api.Answer{}, api.OK
}

// anyPath is one of few, so that most are there now and then.
func anyPath(source *rand.Rand) string {
	if source.Intn(40) == 0 {
		return []string{"/", "", "a", "/a/", "//a", strings.Repeat("/a", 33)}[source.Intn(6)]
	}
	path := ""
	for range 1 + source.Intn(4) {
		path += "/" + []string{"a", "b", "a!"}[source.Intn(3)]
	}
	return path
}

func anyNumber(source *rand.Rand) int {
	if source.Intn(25) == 0 {
		return []int{-1, api.MaxFile, api.MaxFile + 1, api.MaxFile - 3, 1 << 40}[source.Intn(5)]
	}
	return source.Intn([]int{4, 130, 600}[source.Intn(3)])
}

func anyCall(source *rand.Rand) api.Call {
	kind := 1 + source.Intn(api.NumCalls)
	if kind == api.NumCalls {
		kind = []int{0, -1, api.NumCalls, api.CallCreate, api.CallWrite}[source.Intn(5)]
	}
	c := api.Call{Kind: kind, FD: source.Intn(6) - 1, Off: anyNumber(source), N: anyNumber(source), Path: anyPath(source), Other: anyPath(source)}
	if source.Intn(30) == 0 {
		c.FD = 6 + source.Intn(12)
	}
	c.Bytes = make([]byte, source.Intn([]int{1, 9, 300}[source.Intn(3)])+source.Intn(2))
	if source.Intn(4) > 0 {
		for i := range c.Bytes {
			c.Bytes[i] = byte(1 + source.Intn(3))
		}
	}
	return c
}

// held fails unless a tree has what the model has.
func (m *model) held(t *testing.T, x *Tree) {
	t.Helper()
	if got := x.Paths(); !slices.Equal(got, m.paths()) {
		t.Fatalf("%v, want %v", got, m.paths())
	}
	twin := x.Copy()
	twin.Reopen()
	for _, path := range m.paths() {
		want, _ := m.do(stat(path))
		tells(t, x, stat(path), want)
		if a, e := twin.Do(opened(path)); e == api.OK {
			b, _ := twin.Do(read(a.N, 0, api.MaxFile))
			if !bytes.Equal(b.Bytes, m.things[path].bytes) {
				t.Fatal(path, b)
			}
			does(t, twin, closed(a.N))
		}
	}
	if !x.Same(twin) {
		t.Fatal("a copy is the same")
	}
}

// TestP14_3_4_5_6Model: many calls, each held against the model: what has an
// error has not happened; links; what was written is read.
func TestP14_3_4_5_6Model(t *testing.T) {
	for seed := range int64(60) {
		source := rand.New(rand.NewSource(seed))
		x, m := New(), newModel()
		for step := range 400 {
			c := anyCall(source)
			twin := x.Copy()
			got, e := x.Do(c)
			want, why := m.do(c)
			if e != why || !same(got, want) {
				t.Fatalf("seed %d: %v: %v, %v; want %v, %v", seed, c, got, e, want, why)
			}
			if e != api.OK && !x.Same(twin) {
				t.Fatalf("seed %d: %v has changed something", seed, c)
			}
			if step%50 == 49 {
				m.held(t, x)
			}
			if source.Intn(100) == 0 {
				x.Reopen()
				m.fds = [api.MaxFDs]*thing{}
			}
			if source.Intn(50) == 0 {
				x = x.Copy()
			}
		}
	}
}

// TestP14_4_5Links: links, counted from the paths alone.
func TestP14_4_5Links(t *testing.T) {
	source := rand.New(rand.NewSource(5))
	x := New()
	for range 3000 {
		c := anyCall(source)
		c.Bytes = nil
		x.Do(c)
		if source.Intn(20) > 0 {
			continue
		}
		dirsIn := map[string]int{}
		var filePaths []string
		for _, path := range x.Paths() {
			if a, _ := x.Do(stat(path)); a.Mode == api.ModeFile {
				filePaths = append(filePaths, path)
			} else if path != "/" {
				dirsIn[upper(path)]++
			}
		}
		for _, path := range x.Paths() {
			a, _ := x.Do(stat(path))
			want := 2 + dirsIn[path]
			if a.Mode == api.ModeFile {
				want = namesOf(x, path, filePaths)
			}
			if a.Links != want {
				t.Fatalf("%s: %d links, want %d", path, a.Links, want)
			}
		}
	}
}

// namesOf is how many paths have the file that one has: those that grow with
// it.
func namesOf(x *Tree, path string, paths []string) int {
	x = x.Copy()
	x.Reopen()
	a, _ := x.Do(opened(path))
	size := map[string]int{}
	for _, p := range paths {
		b, _ := x.Do(stat(p))
		size[p] = b.Size
	}
	b, _ := x.Do(stat(path))
	x.Do(truncate(a.N, (b.Size+1)%api.MaxFile))
	n := 0
	for _, p := range paths {
		if b, _ := x.Do(stat(p)); b.Size != size[p] {
			n++
		}
	}
	return n
}
