package audit

import (
	"fmt"
	"math"
	"slices"
	"strings"
	"testing"

	"bollard/api"
	"bollard/dirs"
	"bollard/scan"
	"bollard/tree"
)

// thing is what a path leads to.
type thing struct {
	ino     int
	mode    int
	content string
}

// things is all paths of an image that is accepted, said again: path by path,
// byte by byte; false, if no tree can have them.
func (w *world) things() (map[string]thing, bool) {
	out := map[string]thing{"/": {ino: 2, mode: api.ModeDir}}
	met := map[int]bool{2: true}
	return out, w.enter(2, "", 1, met, out)
}

func (w *world) enter(dir int, path string, depth int, met map[int]bool, out map[string]thing) bool {
	for i := range w.get(dir).Size / 128 {
		page, _ := dirs.Decode(w.image[w.addr(dir, i)])
		for _, e := range page {
			if e.Ino == 0 || e.Name == "." || e.Name == ".." {
				continue
			}
			d := w.get(e.Ino)
			if depth > 32 || d.Mode == api.ModeDir && met[e.Ino] {
				return false
			}
			met[e.Ino] = true
			at := path + "/" + e.Name
			out[at] = thing{ino: e.Ino, mode: d.Mode, content: w.content(e.Ino)}
			if d.Mode == api.ModeDir && !w.enter(e.Ino, at, depth+1, met, out) {
				return false
			}
		}
	}
	return true
}

func (w *world) content(ino int) string {
	d := w.get(ino)
	if d.Mode == api.ModeDir {
		return ""
	}
	out := make([]byte, d.Size)
	for i := 0; i*128 < d.Size; i++ {
		if b := w.addrIn(d, i); b != 0 {
			copy(out[i*128:], w.image[b])
		}
	}
	return string(out)
}

// isTree fails unless a tree has just these things, no descriptors, and the same
// paths name one file in both.
func isTree(t *testing.T, x *tree.Tree, all map[string]thing) {
	t.Helper()
	var paths []string
	files := map[int][]string{}
	for path, a := range all {
		paths = append(paths, path)
		if a.mode == api.ModeFile {
			files[a.ino] = append(files[a.ino], path)
		}
	}
	slices.Sort(paths)
	if got := x.Paths(); !slices.Equal(got, paths) {
		t.Fatal(got, "and not", paths)
	}
	for fd := range api.MaxFDs {
		if _, e := x.Do(api.Call{Kind: api.CallFsync, FD: fd}); e != api.ErrFD {
			t.Fatal("descriptor", fd, "has a file")
		}
	}
	twin := x.Copy()
	for path, a := range all {
		s, e := twin.Do(api.Call{Kind: api.CallStat, Path: path})
		if e != api.OK || s.Mode != a.mode || s.Size != len(a.content) {
			t.Fatal(path, s, e, "and not", a.mode, len(a.content))
		}
		if a.mode == api.ModeFile && s.Links != len(files[a.ino]) {
			t.Fatal(path, s.Links, files[a.ino])
		}
		if got := contentOf(t, twin, path); got != a.content {
			t.Fatalf("%s: %q, want %q", path, got, a.content)
		}
	}
	for mark, names := range files { // each file is marked by one of its names
		twin.Do(api.Call{Kind: api.CallOpen, Path: names[0]})
		twin.Do(api.Call{Kind: api.CallTruncate, N: 0})
		twin.Do(api.Call{Kind: api.CallWrite, Bytes: []byte(fmt.Sprint(mark))})
		twin.Do(api.Call{Kind: api.CallClose})
	}
	for path, a := range all {
		if a.mode == api.ModeFile && contentOf(t, twin, path) != fmt.Sprint(a.ino) {
			t.Fatal(path, "is another file's name")
		}
	}
}

// contentOf is a file's bytes; none of a directory. No descriptor is used.
func contentOf(t *testing.T, x *tree.Tree, path string) string {
	t.Helper()
	if _, e := x.Do(api.Call{Kind: api.CallOpen, Path: path}); e != api.OK {
		return ""
	}
	a, e := x.Do(api.Call{Kind: api.CallRead, N: math.MaxInt})
	answers(t, api.OK, e)
	_, e = x.Do(api.Call{Kind: api.CallClose})
	answers(t, api.OK, e)
	return string(a.Bytes)
}

// totals is Count, said again, bit by bit.
func (w *world) totals() Totals {
	var t Totals
	for b := range w.image {
		switch {
		case w.isData(b) && w.hasBlock(b):
			t.Blocks++
		case w.isData(b):
			t.FreeBlocks++
		}
	}
	for ino := 3; ino < w.g.Groups*w.g.Inodes; ino++ {
		if w.hasInode(ino) {
			t.Inodes++
		} else {
			t.FreeInodes++
		}
	}
	found, _ := scan.Leaks(w.image)
	t.LostBlocks, t.LostInodes = len(found.Blocks), len(found.Inodes)
	return t
}

// fill is how many of a group's blocks of data are allocated, how many there
// are, how many are free, and the longest stretch of these.
func (w *world) fill(group int) (used, all, free, longest int) {
	run := 0
	for b := group * w.g.Blocks; b < (group+1)*w.g.Blocks; b++ {
		if !w.isData(b) {
			continue
		}
		all++
		if w.hasBlock(b) {
			used, run = used+1, 0
			continue
		}
		free, run = free+1, run+1
		longest = max(longest, run)
	}
	return used, all, free, longest
}

func (w *world) gauges() []uint64 {
	var out []uint64
	for group := range w.g.Groups {
		used, all, _, _ := w.fill(group)
		out = append(out, math.Float64bits(float64(used)/float64(all)))
	}
	return out
}

// thousandths is a number from 0 to 1 as a report has it: of two as near the
// even one, as Go's own texts have it.
func thousandths(x float64) string {
	if x != x {
		return "nan"
	}
	return fmt.Sprintf("%.3f", math.RoundToEven(x*1000)/1000)
}

func (w *world) report() []string {
	t := w.totals()
	lines := []string{
		fmt.Sprintf("blocks %d of %d", t.Blocks, t.Blocks+t.FreeBlocks),
		fmt.Sprintf("inodes %d of %d", t.Inodes, w.g.Groups*w.g.Inodes-3),
		fmt.Sprintf("lost %d %d", t.LostBlocks, t.LostInodes),
	}
	for group := range w.g.Groups {
		used, all, free, longest := w.fill(group)
		broken := 1 - float64(longest)/float64(free)
		lines = append(lines, fmt.Sprintf("group %d %s %s", group, thousandths(float64(used)/float64(all)), thousandths(broken)))
	}
	return lines
}

// told fails unless all calls tell of an image what the chapter says: the tree.
func told(t *testing.T, w *world) *tree.Tree {
	t.Helper()
	if e := scan.Accept(w.image); e != api.OK {
		refused(t, e, w.image)
		return nil
	}
	totals, e := Count(w.image)
	if e != api.OK || totals != w.totals() {
		t.Fatal(totals, e, "and not", w.totals())
	}
	gauges, e := Gauges(w.image)
	if e != api.OK || !slices.Equal(gauges, w.gauges()) {
		t.Fatal(gauges, e, "and not", w.gauges())
	}
	lines, e := Print(w.image)
	if e != api.OK || !slices.Equal(lines, w.report()) {
		t.Fatal(strings.Join(lines, "\n"), e, "and not", strings.Join(w.report(), "\n"))
	}
	x, e := Tree(w.image)
	all, can := w.things()
	if !can {
		if x != nil || e != api.ErrAudit {
			t.Fatal(x, e)
		}
		answers(t, api.ErrAudit, Held(w.image, tree.New()))
		return nil
	}
	answers(t, api.OK, e)
	isTree(t, x, all)
	answers(t, api.OK, Held(w.image, x)) // P26.5
	return x
}

// refused fails unless all calls answer the error, and nothing beside it.
func refused(t *testing.T, want api.Errno, image [][]byte) {
	t.Helper()
	x, e1 := Tree(image)
	totals, e2 := Count(image)
	gauges, e3 := Gauges(image)
	lines, e4 := Print(image)
	for _, e := range []api.Errno{e1, e2, e3, e4, Held(image, tree.New())} {
		answers(t, want, e)
	}
	if x != nil || totals != (Totals{}) || len(gauges) != 0 || len(lines) != 0 {
		t.Fatal("something is told beside an error:", x, totals, gauges, lines)
	}
}
