package audit

import (
	"slices"
	"strconv"
	"strings"
	"testing"

	"bollard/api"
	"bollard/scan"
	"bollard/tree"
)

// TestP26_3Example is the chapter's.
func TestP26_3Example(t *testing.T) {
	w := newWorld(small)
	lines, e := Print(w.image)
	answers(t, api.OK, e)
	if want := []string{"blocks 1 of 28", "inodes 0 of 5", "lost 0 0", "group 0 0.036 0.000"}; !slices.Equal(lines, want) {
		t.Fatal(lines)
	}
	told(t, w)
}

func TestP26_1NewVolume(t *testing.T) {
	for _, g := range []api.Geom{small, large, {Groups: 1, Blocks: 8, Inodes: 4}, {Groups: 8, Blocks: 256, Inodes: 64}, {Groups: 3, Blocks: 19, Inodes: 64}} {
		if x := told(t, newWorld(g)); !x.Same(tree.New()) {
			t.Fatal(x.Paths())
		}
	}
}

// TestP26_1Town: files with holes and several names, directories of several
// blocks with entries left out; what leaks is not there.
func TestP26_1Town(t *testing.T) {
	w := town()
	answers(t, api.OK, scan.Accept(w.image))
	x := told(t, w)
	want := []string{"/", "/a", "/d", "/d/again", "/d/sub", "/d/z", "/e", "/e/n1", "/e/n2", "/e/n3", "/e/n4", "/f", "/h"}
	if got := x.Paths(); !slices.Equal(got, want) {
		t.Fatal(got)
	}
	if got, want := contentOf(t, x, "/d/again"), strings.Repeat("a", 128)+strings.Repeat("\x00", 128)+strings.Repeat("c", 44); got != want {
		t.Fatalf("%q", got)
	}
	if f := contentOf(t, x, "/f"); len(f) != api.MaxFile || f[127] != 0 || f[128] != 'A' || f[4*128] != 'B' || f[68*128] != 'E' || f[api.MaxFile-1] != 'J' || f[api.MaxFile-129] != 0 {
		t.Fatal("/f has other bytes")
	}
}

// TestP26_1ByHand: the same as a tree that calls made.
func TestP26_1ByHand(t *testing.T) {
	w := newWorld(small)
	w.dir(2, 3, "d")
	w.file(3, 4, "f")
	w.again(2, 4, "g")
	w.letters(4, 1, 'x')
	w.size(4, 200)
	x := tree.New()
	for _, c := range []api.Call{
		{Kind: api.CallMkdir, Path: "/d"}, {Kind: api.CallCreate, Path: "/g"}, {Kind: api.CallLink, Path: "/g", Other: "/d/f"},
		{Kind: api.CallWrite, Off: 128, Bytes: []byte(strings.Repeat("x", 72))},
	} {
		_, e := x.Do(c)
		answers(t, api.OK, e)
	}
	if !told(t, w).Same(x) {
		t.Fatal("it is another tree")
	}
	answers(t, api.OK, Held(w.image, x)) // a descriptor plays no part
}

// TestP26_1Sizes: of a file that has all blocks, and of one without any, up to
// each edge.
func TestP26_1Sizes(t *testing.T) {
	w := newWorld(api.Geom{Groups: 8, Blocks: 256, Inodes: 8})
	w.file(2, 3, "full")
	w.file(2, 4, "empty")
	for i := range 150 {
		w.letters(3, i, byte(1+i))
	}
	w.letters(3, 4163, 0xff)
	for _, blocks := range []int{0, 1, 2, 3, 4, 5, 6, 67, 68, 69, 70, 131, 132, 133, 149, 150, 151, 4163, 4164} {
		for _, more := range []int{-1, 0, 1, 64} {
			size := blocks*128 + more
			if size < 0 || size > api.MaxFile {
				continue
			}
			w.size(3, size)
			w.size(4, size)
			x := told(t, w)
			if got := contentOf(t, x, "/empty"); got != strings.Repeat("\x00", size) {
				t.Fatal(size, len(got))
			}
		}
	}
}

// TestP26_1BehindTheEnd: bytes and blocks that a crash left behind a file's end
// are not there, also when it grows.
func TestP26_1BehindTheEnd(t *testing.T) {
	w := newWorld(small)
	w.file(2, 3, "a")
	for _, i := range []int{0, 1, 3, 4, 9} {
		w.letters(3, i, 'x')
	}
	for _, size := range []int{0, 1, 127, 128, 129, 255, 300, 512, 600} {
		w.size(3, size)
		x := told(t, w)
		_, e := x.Do(api.Call{Kind: api.CallOpen, Path: "/a"})
		answers(t, api.OK, e)
		_, e = x.Do(api.Call{Kind: api.CallTruncate, N: 2000})
		answers(t, api.OK, e)
		a, _ := x.Do(api.Call{Kind: api.CallRead, Off: size, N: 2000})
		if string(a.Bytes) != strings.Repeat("\x00", 2000-size) {
			t.Fatal(size, a)
		}
	}
}

// TestP26_1NoDescriptors: more files than there are descriptors, and all of
// these are free behind.
func TestP26_1NoDescriptors(t *testing.T) {
	w := newWorld(large)
	for ino := 3; ino < 60; ino++ {
		w.file(2, ino, "f"+strconv.Itoa(ino))
	}
	x := told(t, w)
	for fd := range api.MaxFDs {
		if a, e := x.Do(api.Call{Kind: api.CallOpen, Path: "/f3"}); a.N != fd || e != api.OK {
			t.Fatal(fd, a, e)
		}
	}
}

// TestP26_1TwoNames: a directory that has two names, wherever they stand; a
// directory within itself; the root with a name. All of them are accepted.
func TestP26_1TwoNames(t *testing.T) {
	for what, build := range map[string]func(*world){
		"in one directory":            func(w *world) { w.again(2, 3, "x") },
		"in two":                      func(w *world) { w.again(4, 5, "x") },
		"in two, the .. is the other": func(w *world) { w.again(4, 5, "x"); w.page(5, 0, entry(5, "."), entry(4, "..")); w.links(4, 3) },
		"in itself":                   func(w *world) { w.again(3, 3, "x") },
		"above":                       func(w *world) { w.again(5, 3, "x") },
		"ahead of the other":          func(w *world) { w.slot(2, 0, 6, entry(5, "x")); w.links(5, 3) },
		"the root in itself":          func(w *world) { w.again(2, 2, "x") },
		"the root below":              func(w *world) { w.again(5, 2, "x") },
	} {
		w := newWorld(small)
		w.dir(2, 3, "a")
		w.dir(2, 4, "b")
		w.dir(3, 5, "c")
		told(t, w)
		build(w)
		answers(t, api.OK, scan.Accept(w.image))
		if x, e := Tree(w.image); x != nil || e != api.ErrAudit {
			t.Fatal(what, x, e)
		}
		told(t, w)
	}
}

// TestP26_1ManyNames: a file may have as many as MaxLinks, in all directories.
func TestP26_1ManyNames(t *testing.T) {
	w := newWorld(large)
	w.dir(2, 3, "d")
	w.file(3, 4, "0")
	w.letters(4, 0, 'x')
	w.size(4, 5)
	for i := 1; i < api.MaxLinks; i++ {
		w.again([]int{3, 2}[i%2], 4, strconv.Itoa(i))
	}
	x := told(t, w)
	if a, e := x.Do(api.Call{Kind: api.CallStat, Path: "/999"}); e != api.OK || a.Links != api.MaxLinks || a.Size != 5 {
		t.Fatal(a, e)
	}
	w.name(2, 4, "more") // it can't say so many
	answers(t, api.ErrLow, scan.Accept(w.image))
	refused(t, api.ErrLow, w.image)
}

// deep is a world with directories in one another, so many, and the last one's
// inode.
func deep(depth int) (*world, int) {
	w := newWorld(large)
	last := 2
	for i := range depth {
		w.dir(last, 3+i, "a")
		last = 3 + i
	}
	return w, last
}

// TestP26_1Depth: a path of MaxDepth names may be, one of more is refused by
// tree.
func TestP26_1Depth(t *testing.T) {
	for _, depth := range []int{1, api.MaxDepth - 1, api.MaxDepth, api.MaxDepth + 1, 50} {
		w, last := deep(depth)
		answers(t, api.OK, scan.Accept(w.image))
		x := told(t, w)
		if (x != nil) != (depth <= api.MaxDepth) {
			t.Fatal(depth, x)
		}
		if x == nil {
			continue
		}
		for what, add := range map[string]func(*world){
			"a file":      func(w *world) { w.file(last, 60, "f") },
			"a directory": func(w *world) { w.dir(last, 60, "d") },
			"a link":      func(w *world) { w.file(2, 60, "f"); w.again(last, 60, "f") },
		} {
			v := w.copyOf()
			add(v)
			answers(t, api.OK, scan.Accept(v.image))
			if x := told(t, v); (x != nil) != (depth < api.MaxDepth) {
				t.Fatal(depth, what, x)
			}
		}
	}
}

// TestP26_1Names: of all lengths and bytes.
func TestP26_1Names(t *testing.T) {
	w := newWorld(api.Geom{Groups: 2, Blocks: 256, Inodes: 64})
	for c := 33; c < 127; c++ {
		if c != '/' && c != '.' {
			w.file(2, c, string(rune(c)))
		}
	}
	for i, name := range []string{"...", "..a", ".a", "a.", "0123456789abc", ".............", "-", "~~~~~~~~~~~~~"} {
		if name != "-" {
			w.file(2, 4+i, name)
		}
	}
	if x := told(t, w); !slices.Contains(x.Paths(), "/...") || !slices.Contains(x.Paths(), "/0123456789abc") {
		t.Fatal(x.Paths())
	}
}

// fault is one thing in the town for which scan refuses it.
type fault struct {
	name string
	want api.Errno
	do   func(*world)
}

func faults() []fault {
	return []fault{
		{"a block is too short", api.ErrForm, func(w *world) { w.image[120] = w.image[120][:127] }},
		{"a block is too long", api.ErrForm, func(w *world) { w.image[255] = make([]byte, 129) }},
		{"a block is none", api.ErrForm, func(w *world) { w.image[77] = nil }},
		{"no superblock", api.ErrMagic, func(w *world) { w.image[0][1] = 'x' }},
		{"the superblock's sum", api.ErrSum, func(w *world) { w.image[0][127]++ }},
		{"one block more", api.ErrGeom, func(w *world) { w.image = append(w.image, make([]byte, 128)) }},
		{"one block less", api.ErrGeom, func(w *world) { w.image = w.image[:255] }},
		{"a header's number", api.ErrForm, func(w *world) { w.image[129][2] = 0 }},
		{"no second header", api.ErrMagic, func(w *world) { w.image[129][0]++ }},
		{"an inode's sum", api.ErrSum, func(w *world) { w.raw(31)[5] = 1 }},
		{"inode 1 is used", api.ErrShape, func(w *world) { w.put(1, api.Dinode{Mode: api.ModeFile}) }},
		{"a header is a file's", api.ErrOut, func(w *world) { w.edit(9, func(d *api.Dinode) { d.Direct[1] = 129 }) }},
		{"a block of two", api.ErrTwice, func(w *world) { w.edit(3, func(d *api.Dinode) { d.Direct[1] = w.addr(2, 1) }) }},
		{"a block that is not allocated", api.ErrUnset, func(w *world) { w.block(w.addr(12, 3), false) }},
		{"no indirect block", api.ErrForm, func(w *world) { w.fan(w.get(6).Single, 63, 2048) }},
		{"the root is a file", api.ErrShape, func(w *world) { w.edit(2, func(d *api.Dinode) { d.Mode = api.ModeFile }) }},
		{"a block of a directory is not there", api.ErrShape, func(w *world) { w.size(5, 7*128) }},
		{"one name twice", api.ErrShape, func(w *world) { w.slot(4, 0, 6, entry(20, "z")) }},
		{"an inode that is not used", api.ErrOut, func(w *world) { w.slot(2, 0, 3, entry(30, "no")) }},
		{"an inode that there is not", api.ErrOut, func(w *world) { w.slot(2, 0, 3, entry(511, "no")) }},
		{"an inode that is not allocated", api.ErrUnset, func(w *world) { w.inode(20, false) }},
		{"another one's ..", api.ErrShape, func(w *world) { w.slot(7, 0, 1, entry(5, "..")) }},
		{"too few links", api.ErrLow, func(w *world) { w.links(6, 0) }},
	}
}

// TestP26_1Refused: what scan refuses, for each cause, by all calls; also if no
// tree could have it.
func TestP26_1Refused(t *testing.T) {
	for _, f := range faults() {
		w := town()
		f.do(w)
		answers(t, f.want, scan.Accept(w.image))
		refused(t, f.want, w.image)
		w = town()
		w.again(2, 7, "x")
		f.do(w)
		refused(t, f.want, w.image)
	}
	refused(t, api.ErrForm, nil)
	refused(t, api.ErrForm, [][]byte{})
	refused(t, api.ErrForm, [][]byte{nil})
	refused(t, api.ErrForm, make([][]byte, 1<<20))
	for _, many := range []int{1, 32, 256, 2048, 5000} {
		noughts := make([][]byte, many)
		for b := range noughts {
			noughts[b] = make([]byte, api.Size)
		}
		refused(t, api.ErrMagic, noughts)
		noughts[many-1] = noughts[many-1][:0]
		refused(t, api.ErrForm, noughts)
	}
}

// TestP26_2Nil: a tree that no call made, ahead of the image's error.
func TestP26_2Nil(t *testing.T) {
	for _, image := range [][][]byte{newWorld(small).image, town().image, nil, make([][]byte, 3)} {
		for _, x := range []*tree.Tree{nil, {}} {
			answers(t, api.ErrNil, Held(image, x))
		}
	}
	w, _ := deep(api.MaxDepth + 1)
	answers(t, api.ErrNil, Held(w.image, nil))
	answers(t, api.ErrNil, Held(w.image, &tree.Tree{}))
	answers(t, api.ErrAudit, Held(w.image, tree.New()))
}

// TestP26_2Held: each thing in which a tree can part from the image.
func TestP26_2Held(t *testing.T) {
	w := town()
	own, e := Tree(w.image)
	answers(t, api.OK, e)
	for what, calls := range map[string][]api.Call{
		"a directory more": {{Kind: api.CallMkdir, Path: "/x"}},
		"a file more":      {{Kind: api.CallCreate, Path: "/x"}},
		"a name more":      {{Kind: api.CallLink, Path: "/a", Other: "/x"}},
		"a file less":      {{Kind: api.CallUnlink, Path: "/e/n3"}},
		"a name less":      {{Kind: api.CallUnlink, Path: "/h"}},
		"a directory less": {{Kind: api.CallRmdir, Path: "/d/sub"}},
		"another name":     {{Kind: api.CallRename, Path: "/d/z", Other: "/d/y"}},
		"another place":    {{Kind: api.CallRename, Path: "/d/z", Other: "/z"}},
		"another byte":     {{Kind: api.CallOpen, Path: "/f"}, {Kind: api.CallWrite, Off: api.MaxFile - 1, Bytes: []byte("x")}},
		"a byte more":      {{Kind: api.CallOpen, Path: "/a"}, {Kind: api.CallTruncate, N: 301}},
		"a byte less":      {{Kind: api.CallOpen, Path: "/a"}, {Kind: api.CallTruncate, N: 299}},
		"a file apart":     {{Kind: api.CallUnlink, Path: "/e/n1"}, {Kind: api.CallLink, Path: "/e/n2", Other: "/e/n1"}},
		"another kind":     {{Kind: api.CallUnlink, Path: "/e/n1"}, {Kind: api.CallMkdir, Path: "/e/n1"}},
	} {
		x := own.Copy()
		for _, c := range calls {
			_, e := x.Do(c)
			answers(t, api.OK, e)
		}
		if e := Held(w.image, x); e != api.ErrAudit {
			t.Fatal(what, e)
		}
	}
	answers(t, api.ErrAudit, Held(w.image, tree.New()))
	answers(t, api.OK, Held(w.image, own))
}

// TestP26_2OpenFiles: descriptors play no part, also those of files without
// names; and the tree stays as it is, with them.
func TestP26_2OpenFiles(t *testing.T) {
	w := town()
	x, e := Tree(w.image)
	answers(t, api.OK, e)
	for _, c := range []api.Call{
		{Kind: api.CallOpen, Path: "/a"}, {Kind: api.CallCreate, Path: "/gone"}, {Kind: api.CallWrite, FD: 1, Bytes: []byte("x")}, {Kind: api.CallUnlink, Path: "/gone"},
	} {
		_, e := x.Do(c)
		answers(t, api.OK, e)
	}
	twin := x.Copy()
	answers(t, api.OK, Held(w.image, x))
	if a, e := x.Do(api.Call{Kind: api.CallRead, FD: 1, N: 9}); string(a.Bytes) != "x" || e != api.OK || !x.Same(twin) {
		t.Fatal(a, e)
	}
	if a, e := x.Do(api.Call{Kind: api.CallOpen, Path: "/f"}); a.N != 2 || e != api.OK {
		t.Fatal(a, e)
	}
}
