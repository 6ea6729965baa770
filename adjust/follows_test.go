package adjust

import (
	"math/rand"
	"reflect"
	"slices"
	"testing"

	"bollard/api"
	"bollard/check"
	"bollard/file"
	"bollard/names"
	"bollard/scan"
	"bollard/snap"
	"bollard/volume"
)

// thing is what a path leads to.
type thing struct {
	ino, mode int
	bytes     string
}

// treeOf is all that users can come to, by path.
func treeOf(t *testing.T, image [][]byte, g api.Geom) map[string]thing {
	t.Helper()
	_, v := opened(t, image, api.MaxCache)
	w := &world{g: g, image: image}
	out := map[string]thing{}
	var visit func(path string, ino int)
	visit = func(path string, ino int) {
		d := w.get(ino)
		one := thing{ino: ino, mode: d.Mode}
		if d.Mode == api.ModeFile {
			bytes, e := file.Read(v, g, ino, 0, d.Size)
			answers(t, api.OK, e)
			one.bytes = string(bytes)
		}
		out[path] = one
		if d.Mode != api.ModeDir {
			return
		}
		l, e := names.List(v, g, ino)
		answers(t, api.OK, e)
		for _, e := range l {
			if e.Name != "." && e.Name != ".." {
				visit(path+"/"+e.Name, e.Ino)
			}
		}
	}
	visit("", 2)
	return out
}

// told is what scan tells of an image that is accepted.
type told struct {
	claims []api.Claim
	reach  []int
	links  []api.Link
	leaks  api.Found
}

func tell(t *testing.T, image [][]byte) told {
	t.Helper()
	var out told
	var e [4]api.Errno
	out.claims, e[0] = scan.Claims(image)
	out.reach, e[1] = scan.Reach(image)
	out.links, e[2] = scan.Links(image)
	out.leaks, e[3] = scan.Leaks(image)
	if e != [4]api.Errno{} {
		t.Fatal(e)
	}
	return out
}

// may tells chapter 20's errors over again, behind ErrGeom.
func (l told) may(w *world, open []int, r api.Request) api.Errno {
	isOpen := slices.Contains(open, r.N)
	switch {
	case r.Kind == api.FreeBlock && r.N >= 0 && r.N < len(w.image) && r.N%w.g.Blocks >= w.data():
		switch {
		case slices.ContainsFunc(l.claims, func(c api.Claim) bool { return c.Block == r.N }):
			return api.ErrHeld
		case slices.Contains(l.leaks.Blocks, r.N):
			return api.OK
		}
		return api.ErrFree
	case r.Kind == api.FreeInode && r.N > 2 && r.N < w.inodes():
		leaks := slices.Contains(l.leaks.Inodes, r.N)
		switch {
		case slices.Contains(l.reach, r.N), leaks && isOpen:
			return api.ErrHeld
		case leaks:
			return api.OK
		}
		return api.ErrFree
	case r.Kind == api.LowerLinks && r.N > 1 && r.N < w.inodes():
		d := w.get(r.N)
		switch {
		case d.Mode == api.ModeFree:
			return api.ErrFree
		case slices.ContainsFunc(l.leaks.Links, func(l api.Link) bool { return l.Ino == r.N }):
			return api.OK
		case !slices.Contains(l.reach, r.N) && d.Links > 0:
			return api.OK
		}
	}
	return api.ErrArg
}

func anyOpen(source *rand.Rand, w *world) []int {
	var open []int
	for range source.Intn(6) {
		open = append(open, source.Intn(w.inodes()+3)-1)
	}
	return open
}

// TestP20_2AsTold: of all numbers that there are, and some past both ends, what
// scan tells decides.
func TestP20_2AsTold(t *testing.T) {
	met := map[api.Errno]int{}
	for seed := range int64(30) {
		source := rand.New(rand.NewSource(seed))
		w := anyWorld(source)
		d, v := opened(t, w.image, api.MaxCache)
		l, open := tell(t, w.image), anyOpen(source, w)
		was := stateOf(d, v)
		for kind := range 5 {
			for n := -2; n < len(w.image)+2; n++ {
				r := api.Request{Kind: kind, N: n, To: source.Intn(4), Gen: 1}
				want := l.may(w, open, r)
				met[want]++
				if got := May(v, w.g, open, r, 1); got != want {
					t.Fatal(seed, r, open, got, want)
				}
			}
		}
		if !reflect.DeepEqual(stateOf(d, v), was) {
			t.Fatal("May has changed the volume")
		}
	}
	for _, e := range []api.Errno{api.OK, api.ErrArg, api.ErrFree, api.ErrHeld} {
		if met[e] < 100 {
			t.Fatal(met)
		}
	}
}

// TestP20_5Follows: whatever requests are made, in whatever order, with some
// inodes open: what is done is what leaked, alone; the tree is the same; it is
// refused then (P20.4, P20.6).
func TestP20_5Follows(t *testing.T) {
	granted := 0
	for seed := range int64(90) {
		source := rand.New(rand.NewSource(seed))
		w := anyWorld(source)
		d, v := opened(t, w.image, api.MaxCache)
		tree, open := treeOf(t, w.image, w.g), anyOpen(source, w)
		for range 25 {
			was := now(t, v)
			r := anyRequest(source, tell(t, was), w)
			if want := tell(t, was).may(&world{g: w.g, image: was}, open, r); want != api.OK {
				refuses(t, want, d, v, w.g, open, r, 3)
				continue
			}
			l, e := Do(v, w.g, open, r, 3)
			if len(l) != 1 || e != api.OK {
				t.Fatal(seed, r, l, e)
			}
			granted++
			is := now(t, v)
			answers(t, api.OK, scan.Accept(is))
			if !reflect.DeepEqual(treeOf(t, is, w.g), tree) {
				t.Fatal(seed, r, "the tree is another one")
			}
			oneLess(t, r, open, tell(t, was), tell(t, is))
			if e := May(v, w.g, open, r, 3); e != api.ErrFree && e != api.ErrArg {
				t.Fatal(seed, r, "it was done, and may be done again", e)
			}
		}
	}
	if granted < 200 {
		t.Fatal(granted)
	}
}

// anyRequest is likely to be one that may be done.
func anyRequest(source *rand.Rand, l told, w *world) api.Request {
	r := api.Request{Kind: 1 + source.Intn(3), N: source.Intn(len(w.image)), To: source.Intn(3), Gen: 3}
	links := []int{2, 3}
	for _, l := range l.leaks.Links {
		links = append(links, l.Ino)
	}
	from := [][]int{l.leaks.Blocks, l.leaks.Inodes, links}[r.Kind-1]
	if r.Kind == api.LowerLinks && source.Intn(3) == 0 {
		from = l.leaks.Inodes
	}
	if len(from) > 0 && source.Intn(5) > 0 {
		r.N = from[source.Intn(len(from))]
	}
	return r
}

// oneLess fails unless just what was asked leaks no more, and with an inode its
// blocks are nobody's.
func oneLess(t *testing.T, r api.Request, open []int, was, is told) {
	t.Helper()
	want := was
	reached := slices.Contains(was.reach, r.N)
	isIt := func(n int) bool { return n == r.N }
	switch {
	case r.Kind == api.FreeBlock:
		want.leaks.Blocks = slices.DeleteFunc(slices.Clone(want.leaks.Blocks), isIt)
	case reached:
		of := func(l api.Link) bool { return l.Ino == r.N }
		want.leaks.Links = slices.DeleteFunc(slices.Clone(want.leaks.Links), of)
		want.links = slices.Clone(want.links)
		i := slices.IndexFunc(want.links, of)
		want.links[i].Says = want.links[i].True
	case r.Kind == api.FreeInode || !slices.Contains(open, r.N):
		want.leaks.Inodes = slices.DeleteFunc(slices.Clone(want.leaks.Inodes), isIt)
		want.claims = slices.DeleteFunc(slices.Clone(want.claims), func(c api.Claim) bool { return c.Ino == r.N })
	}
	if !same(is, want) {
		t.Fatalf("%v: %v\nwant %v", r, is, want)
	}
}

// same takes a list without things for one that is nil.
func same(a, b told) bool {
	return slices.Equal(a.claims, b.claims) && slices.Equal(a.reach, b.reach) && slices.Equal(a.links, b.links) &&
		slices.Equal(a.leaks.Blocks, b.leaks.Blocks) && slices.Equal(a.leaks.Inodes, b.leaks.Inodes) && slices.Equal(a.leaks.Links, b.leaks.Links)
}

// TestP20_5Checked: all that a checker asks may be done, in any order; then
// nothing leaks.
func TestP20_5Checked(t *testing.T) {
	for seed := range int64(200) {
		source := rand.New(rand.NewSource(seed))
		w := anyWorld(source)
		_, v := opened(t, w.image, api.MaxCache)
		tree := treeOf(t, w.image, w.g)
		asked := checked(t, v, w.g, 4)
		source.Shuffle(len(asked), func(i, j int) { asked[i], asked[j] = asked[j], asked[i] })
		for _, r := range asked {
			if _, e := Do(v, w.g, nil, r, 4); e != api.OK {
				t.Fatal(seed, r, e)
			}
		}
		is := now(t, v)
		if l := tell(t, is).leaks; len(l.Blocks)+len(l.Inodes)+len(l.Links) != 0 {
			t.Fatal(seed, l)
		}
		if !reflect.DeepEqual(treeOf(t, is, w.g), tree) {
			t.Fatal(seed, "the tree is another one")
		}
	}
}

// checked is all that a checker asks of a volume as it is now.
func checked(t *testing.T, v *volume.Volume, g api.Geom, gen int) []api.Request {
	t.Helper()
	s, e := snap.Take(v, g, gen, 0)
	answers(t, api.OK, e)
	c, e := check.New(s)
	answers(t, api.OK, e)
	var out []api.Request
	for !c.Done() {
		l, e := c.Step()
		answers(t, api.OK, e)
		out = append(out, l...)
	}
	answers(t, api.OK, s.Drop())
	return out
}
