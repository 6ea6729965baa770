package names

import (
	"bytes"
	"math"
	"math/rand"
	"reflect"
	"slices"
	"strings"
	"testing"

	"bollard/api"
	"bollard/dirs"
	"bollard/disk"
	"bollard/layout"
	"bollard/volume"
)

// one has 36 blocks of data, from 4 on; three has 5 in each of its groups, from
// 3 on.
var (
	one   = api.Geom{Groups: 1, Blocks: 40, Inodes: 8}
	three = api.Geom{Groups: 3, Blocks: 8, Inodes: 4}
)

// world is a volume's blocks, of which the first ones of data are taken, as
// they are needed.
type world struct {
	g     api.Geom
	image [][]byte
}

// newWorld has no inode that is used. Blocks of data are full of bytes that
// nobody wants.
func newWorld(g api.Geom) *world {
	w := &world{g: g}
	data := 2 + g.Inodes/4
	for b := range g.Groups * g.Blocks {
		fill := byte(0)
		if b%g.Blocks >= data {
			fill = 0xee
		}
		w.image = append(w.image, bytes.Repeat([]byte{fill}, api.Size))
	}
	for group := range g.Groups {
		header := api.Group{Number: group}
		for bit := range data {
			header.Blocks[bit/8] |= 1 << (bit % 8)
		}
		w.image[group*g.Blocks+1], _ = layout.EncodeGroup(header)
	}
	return w
}

// take allocates the first block of data that is free, with these bytes.
func (w *world) take(bytes []byte) int {
	for b := range w.image {
		bit := b % w.g.Blocks
		if at := &w.image[b-bit+1][12+bit/8]; *at>>(bit%8)&1 == 0 {
			*at |= 1 << (bit % 8)
			copy(w.image[b], bytes)
			return b
		}
	}
	panic("no room")
}

func (w *world) put(ino int, d api.Dinode) {
	bytes, e := layout.EncodeDinode(d)
	if e != api.OK {
		panic(e)
	}
	copy(w.image[ino/w.g.Inodes*w.g.Blocks+2+ino%w.g.Inodes/4][ino%4*32:], bytes)
}

// dir makes a directory of these blocks: the addresses of these. Behind the
// fourth comes an indirect one.
func (w *world) dir(ino int, pages ...[]api.Entry) []int {
	d := api.Dinode{Mode: api.ModeDir, Links: 2, Size: len(pages) * api.Size}
	var blocks []int
	fan := make([]int, api.Fan)
	for i, page := range pages {
		bytes, e := dirs.Encode(page)
		if e != api.OK {
			panic(e)
		}
		blocks = append(blocks, w.take(bytes))
		if i < 4 {
			d.Direct[i] = blocks[i]
		} else {
			fan[i-4] = blocks[i]
		}
	}
	if len(pages) > 4 {
		bytes, _ := layout.EncodeFan(fan)
		d.Single = w.take(bytes)
	}
	w.put(ino, d)
	return blocks
}

// root is a directory with these entries behind its own two.
func (w *world) root(l ...api.Entry) int {
	return w.dir(api.Root, append(dots(2, 2), l...))[0]
}

func (w *world) file(ino int) {
	w.put(ino, api.Dinode{Mode: api.ModeFile, Links: 1})
}

func dots(ino, up int) []api.Entry {
	return []api.Entry{{Ino: ino, Name: "."}, {Ino: up, Name: ".."}}
}

func entry(ino int, name string) api.Entry {
	return api.Entry{Ino: ino, Name: name}
}

// full is eight entries, whose names begin with a letter.
func full(letter string) []api.Entry {
	var l []api.Entry
	for k := range 8 {
		l = append(l, entry(3, letter+string(rune('0'+k))))
	}
	return l
}

func opened(t *testing.T, image [][]byte) (*disk.Disk, *volume.Volume) {
	t.Helper()
	d, e := disk.Of(image)
	answers(t, api.OK, e)
	v, e := volume.Open(d, 64)
	answers(t, api.OK, e)
	return d, v
}

func answers(t *testing.T, want, got api.Errno) {
	t.Helper()
	if got != want {
		t.Fatalf("%v, want %v", got, want)
	}
}

// wild are numbers that are out of every range.
func wild() []int {
	return []int{math.MinInt, math.MinInt32, -1 << 32, -512, -2, -1, 512, 1 << 16, 1<<16 + 2, math.MaxInt32, 1<<32 + 2, math.MaxInt}
}

// state is all that a volume tells but what its blocks are now.
type state struct {
	last, kept        int
	dirty, ready, way []int
	pending           [][]int
	image             [][]byte
	queue             []api.Sent
}

// stateOf reads no block by the volume: that might use up a read that fails.
func stateOf(d *disk.Disk, v *volume.Volume) state {
	out := state{last: v.Last(), kept: v.Kept(), dirty: v.Dirty(), ready: v.Ready(), way: v.Way(), image: d.Image(), queue: d.Queue()}
	for b := range v.Blocks() {
		out.pending = append(out.pending, v.Pending(b))
	}
	return out
}

// ask is a call: whether what it tells beside the error is zero, and the error.
type ask func() (bool, api.Errno)

func told[T comparable](got T, e api.Errno) (bool, api.Errno) {
	var zero T
	return got == zero, e
}

// stays fails unless calls answer that number and nothing beside it, and leave
// the volume as it was.
func stays(t *testing.T, d *disk.Disk, v *volume.Volume, want api.Errno, calls ...ask) {
	t.Helper()
	for _, call := range calls {
		was := stateOf(d, v)
		zero, e := call()
		if e != want || !zero {
			t.Fatalf("%v (nothing beside it: %t), want %v", e, zero, want)
		}
		if is := stateOf(d, v); !reflect.DeepEqual(is, was) {
			t.Fatalf("the call has changed the volume: %v, was %v", is, was)
		}
	}
}

func askAdd(v *volume.Volume, g api.Geom, dir int, e api.Entry, needs ...int) ask {
	return func() (bool, api.Errno) { return told(Add(v, g, dir, e, needs)) }
}

func askRemove(v *volume.Volume, g api.Geom, dir int, name string, needs ...int) ask {
	return func() (bool, api.Errno) { return told(Remove(v, g, dir, name, needs)) }
}

func askSet(v *volume.Volume, g api.Geom, dir int, name string, ino int, needs ...int) ask {
	return func() (bool, api.Errno) { return told(Set(v, g, dir, name, ino, needs)) }
}

func askLookup(v *volume.Volume, g api.Geom, dir int, name string) ask {
	return func() (bool, api.Errno) { return told(Lookup(v, g, dir, name)) }
}

func askWalk(v *volume.Volume, g api.Geom, path string) ask {
	return func() (bool, api.Errno) { return told(Walk(v, g, path)) }
}

func askBelow(v *volume.Volume, g api.Geom, dir, top int) ask {
	return func() (bool, api.Errno) { return told(Below(v, g, dir, top)) }
}

// all is every call of a directory but Walk, with a name, and with things that
// are wrong beside.
func all(v *volume.Volume, g api.Geom, dir int, name string) []ask {
	return []ask{
		askLookup(v, g, dir, name), askRemove(v, g, dir, name, -1), askSet(v, g, dir, name, -1, -1), askBelow(v, g, dir, dir), askBelow(v, g, dir, -1),
		askAdd(v, g, dir, entry(-1, name), -1), askAdd(v, g, dir, entry(3, name)), askAdd(v, g, dir, entry(3, "new")), askAdd(v, g, dir, api.Entry{}),
		func() (bool, api.Errno) { return told(Empty(v, g, dir)) },
		func() (bool, api.Errno) {
			l, e := List(v, g, dir)
			return len(l) == 0, e
		},
	}
}

// step is a patch: bytes of a block, and the numbers of those that it needs.
type step struct {
	block, off int
	bytes      []byte
	needs      []int
}

func replay(t *testing.T, v *volume.Volume, steps []step) {
	t.Helper()
	for _, s := range steps {
		_, e := v.Change(s.block, s.off, s.bytes, s.needs)
		answers(t, api.OK, e)
	}
}

// twins are two volumes that must stay the same, whatever is written of both.
type twins struct {
	t          *testing.T
	disk, copy *disk.Disk
	v, twin    *volume.Volume
}

func (p twins) same() {
	p.t.Helper()
	if got, want := stateOf(p.disk, p.v), stateOf(p.copy, p.twin); !reflect.DeepEqual(got, want) {
		p.t.Fatalf("it tells %v\nwant %v", got, want)
	}
	for b := range p.v.Blocks() {
		got, e := p.v.Read(b)
		answers(p.t, api.OK, e)
		if want, e := p.twin.Read(b); !bytes.Equal(got, want) || e != api.OK {
			p.t.Fatalf("block %d: %x\nwant %x", b, got, want)
		}
	}
}

// drain writes blocks in some order, until all is on the disk.
func (p twins) drain(source *rand.Rand) {
	p.t.Helper()
	for len(p.v.Dirty()) > 0 {
		if ready := p.v.Ready(); len(ready) > 0 {
			b := ready[source.Intn(len(ready))]
			answers(p.t, api.OK, p.v.Write(b))
			answers(p.t, api.OK, p.twin.Write(b))
		}
		if n := len(p.v.Way()); n > 0 && source.Intn(2) == 0 {
			k := source.Intn(n)
			answers(p.t, api.OK, p.v.Complete(k, true))
			answers(p.t, api.OK, p.twin.Complete(k, true))
		}
		p.same()
	}
}

// agrees makes a call of a volume behind some patches: it fails unless it makes
// just the patches that are wanted, and tells the last one's number, in
// whatever order blocks are written then.
func agrees(t *testing.T, image [][]byte, ahead, want []step, call func(v *volume.Volume) (int, api.Errno)) {
	t.Helper()
	for seed := range int64(8) {
		p := twins{t: t}
		p.disk, p.v = opened(t, image)
		p.copy, p.twin = opened(t, image)
		replay(t, p.v, ahead)
		replay(t, p.twin, ahead)
		replay(t, p.twin, want)
		if id, e := call(p.v); id != len(ahead)+len(want) || e != api.OK {
			t.Fatal(id, e)
		}
		p.same()
		p.drain(rand.New(rand.NewSource(seed)))
	}
}

func TestP16NoVolume(t *testing.T) {
	for _, v := range []*volume.Volume{nil, {}} {
		for _, g := range []api.Geom{one, {}} {
			for _, call := range append(all(v, g, -1, ""), askWalk(v, g, ""), askWalk(v, g, "/"), askWalk(v, g, "/a")) {
				if zero, e := call(); !zero || e != api.ErrNil {
					t.Fatal(zero, e)
				}
			}
		}
	}
}

func TestP16Geometry(t *testing.T) {
	w := newWorld(three)
	w.root()
	d, v := opened(t, w.image)
	for _, g := range []api.Geom{
		{}, {Groups: 3, Blocks: 8}, {Groups: -3, Blocks: 8, Inodes: 4}, {Groups: 9, Blocks: 8, Inodes: 4}, {Groups: 3, Blocks: 8, Inodes: 5},
		{Groups: math.MaxInt, Blocks: math.MaxInt, Inodes: math.MinInt}, {Groups: 4, Blocks: 8, Inodes: 4}, one, // more blocks than the volume has
	} {
		stays(t, d, v, api.ErrGeom, all(v, g, -1, "")...)
		stays(t, d, v, api.ErrGeom, askWalk(v, g, ""), askWalk(v, g, "/"), askWalk(v, g, "/a"))
	}
	if ino, e := Walk(v, api.Geom{Groups: 2, Blocks: 8, Inodes: 4}, "/"); ino != 2 || e != api.OK { // fewer
		t.Fatal(ino, e)
	}
}

// TestP16Inode: a directory's inode is asked for ahead of all else.
func TestP16Inode(t *testing.T) {
	w := newWorld(three)
	w.root(entry(3, "a"))
	w.file(3)
	w.put(4, api.Dinode{Mode: api.ModeFile, Links: 1, Size: 128, Direct: [4]int{3}}) // a file with a directory's bytes
	w.put(5, api.Dinode{Mode: api.ModeDir})
	w.image[10][32+9] ^= 1
	d, v := opened(t, w.image)
	for _, name := range []string{"", "a", "."} {
		for _, dir := range append(wild(), 12, 13) {
			stays(t, d, v, api.ErrInode, all(v, three, dir, name)...)
		}
		for _, dir := range []int{0, 1, 3, 4, 6, 11} { // free ones, and files
			stays(t, d, v, api.ErrNotDir, all(v, three, dir, name)...)
		}
		stays(t, d, v, api.ErrSum, all(v, three, 5, name)...)
		for which := range all(v, three, 2, name) {
			d, v := opened(t, w.image)
			answers(t, api.OK, d.Fail(2, 1))
			stays(t, d, v, api.ErrIO, all(v, three, 2, name)[which])
		}
	}
}

// TestP16Blocks: all blocks of a directory's size must be there and may be,
// wherever a name stands.
func TestP16Blocks(t *testing.T) {
	for broken := range 6 {
		w := newWorld(one)
		blocks := w.dir(2, full("a"), full("b"), full("c"), full("d"), full("e"), full("f"))
		for _, name := range []string{"a0", "b1", "f7"} {
			for _, b := range append(slices.Clone(blocks[broken:broken+1]), 10) { // 10 is the indirect one
				for which := range all(nil, one, 2, name) {
					d, v := opened(t, w.image)
					answers(t, api.OK, d.Fail(b, 1))
					stays(t, d, v, api.ErrIO, all(v, one, 2, name)[which])
				}
			}
			image := slices.Clone(w.image)
			for _, wrong := range [][]byte{
				bytes.Repeat([]byte{0xee}, 128),
				append(bytes.Clone(w.image[4][:112]), w.image[4][:16]...),                        // one name twice
				append(bytes.Clone(w.image[4][:112]), append([]byte{3}, make([]byte, 15)...)...), // an inode, and no name
			} {
				image[blocks[broken]] = wrong
				d, v := opened(t, image)
				stays(t, d, v, api.ErrForm, all(v, one, 2, name)...)
			}
		}
	}
}

// TestP16Addresses: a block that there is not, one that the volume has not, and
// an indirect block that can't be.
func TestP16Addresses(t *testing.T) {
	good := api.Dinode{Mode: api.ModeDir, Size: 5 * 128, Direct: [4]int{4, 5, 6, 7}, Single: 9}
	w := newWorld(one)
	w.dir(2, full("a"), full("b"), full("c"), full("d"), full("e"))
	for _, c := range []struct {
		turn func(d *api.Dinode)
		want api.Errno
	}{
		{func(d *api.Dinode) {}, api.OK},
		{func(d *api.Dinode) { d.Direct[0] = 0 }, api.ErrForm},
		{func(d *api.Dinode) { d.Direct[3] = 0 }, api.ErrForm},
		{func(d *api.Dinode) { d.Single = 0 }, api.ErrForm},
		{func(d *api.Dinode) { d.Size = 6 * 128 }, api.ErrForm},
		{func(d *api.Dinode) { d.Size = api.MaxFile }, api.ErrForm},
		{func(d *api.Dinode) { d.Direct[1] = 40 }, api.ErrBlock},
		{func(d *api.Dinode) { d.Single = 2047 }, api.ErrBlock},
		{func(d *api.Dinode) { d.Single = 30 }, api.ErrForm}, // 0xee all over
		{func(d *api.Dinode) { d.Single, d.Size = 30, 4*128 }, api.OK},
		{func(d *api.Dinode) { d.Direct[2], d.Size = 0, 2*128 }, api.OK},
	} {
		turned := good
		c.turn(&turned)
		w.put(2, turned)
		d, v := opened(t, w.image)
		if c.want != api.OK {
			stays(t, d, v, c.want, all(v, one, 2, "a3")...)
		} else if ino, e := Lookup(v, one, 2, "a3"); ino != 3 || e != api.OK {
			t.Fatal(ino, e)
		}
	}
}

func TestP16_1Lookup(t *testing.T) {
	w := newWorld(one)
	pages := [][]api.Entry{
		append(dots(2, 7), entry(3, "a"), api.Entry{}, entry(511, "abcdefghijklm")),
		full("x"),
		{},
		{{}, {}, {}, {}, {}, {}, {}, entry(1, "z")},
		{entry(9, "single"), entry(9, "a")}, // one name in two blocks: the first counts
	}
	w.dir(2, pages...)
	_, v := opened(t, w.image)
	seen := map[string]int{}
	var entries []api.Entry
	for _, page := range pages {
		for _, e := range page {
			if e.Ino == 0 {
				continue
			}
			entries = append(entries, e)
			if seen[e.Name] == 0 {
				seen[e.Name] = e.Ino
			}
		}
	}
	for name, want := range seen {
		if ino, e := Lookup(v, one, 2, name); ino != want || e != api.OK {
			t.Fatal(name, ino, e)
		}
	}
	for _, name := range []string{"", "b", "A", "aa", "x8", "...", "/", "a/b", "a\x00", "abcdefghijkl", "abcdefghijklmn", strings.Repeat("a", 1<<16)} {
		if ino, e := Lookup(v, one, 2, name); ino != 0 || e != api.ErrAbsent {
			t.Fatal(name, ino, e)
		}
	}
	for range 2 {
		l, e := List(v, one, 2)
		if !slices.Equal(l, entries) || e != api.OK {
			t.Fatal(l, e)
		}
		clear(l[:cap(l)]) // an answer is shared with nothing
	}
	if v.Last() != 0 {
		t.Fatal("something was patched")
	}
}

func TestP16_1Empty(t *testing.T) {
	for _, c := range []struct {
		want  bool
		pages [][]api.Entry
	}{
		{true, nil},
		{true, [][]api.Entry{{}}},
		{true, [][]api.Entry{dots(2, 2)}},
		{true, [][]api.Entry{{{}, entry(9, "."), {}, entry(5, "..")}, {}}},
		{true, [][]api.Entry{dots(2, 2), dots(2, 2)}},
		{false, [][]api.Entry{append(dots(2, 2), entry(3, "a"))}},
		{false, [][]api.Entry{append(dots(2, 2), entry(3, "..."))}},
		{false, [][]api.Entry{{{}, {}, {}, {}, {}, {}, {}, entry(2, "a")}}},
		{false, [][]api.Entry{dots(2, 2), {}, {}, {}, {entry(511, "z")}}},
	} {
		w := newWorld(one)
		w.dir(5, c.pages...)
		_, v := opened(t, w.image)
		if got, e := Empty(v, one, 5); got != c.want || e != api.OK {
			t.Fatal(c.pages, got, e)
		}
	}
}

// tower is a volume with directories in one another, /d/e and /f, files /g and
// /d/g, and names that lead to what can't be.
func tower() *world {
	w := newWorld(three)
	w.root(entry(3, "d"), entry(4, "f"), entry(5, "g"), entry(11, "free"), entry(12, "none"), entry(511, "far"))
	w.dir(3, append(dots(3, 2), entry(6, "e"), entry(7, "g")))
	w.dir(4, dots(4, 2))
	w.file(5)
	w.dir(6, append(dots(6, 3), entry(2, "top")))
	w.file(7)
	return w
}

func TestP16_1Walk(t *testing.T) {
	d, v := opened(t, tower().image)
	for path, want := range map[string]int{
		"/": 2, "/d": 3, "/d/e": 6, "/f": 4, "/g": 5, "/d/g": 7, "/d/e/top": 2, "/d/e/top/d/e/top/f": 4, "/free": 11, "/none": 12, "/far": 511,
		strings.Repeat("/d/e/top", 10) + "/d/e": 6, // 32 names
	} {
		if ino, e := Walk(v, three, path); ino != want || e != api.OK {
			t.Fatal(path, ino, e)
		}
	}
	for path, want := range map[string]api.Errno{
		"": api.ErrName, "d": api.ErrName, "/d/": api.ErrName, "//": api.ErrName, "/.": api.ErrName, "/d/..": api.ErrName, "/x//": api.ErrName, "/abcdefghijklmn": api.ErrName,
		strings.Repeat("/d/e/top", 11): api.ErrLong, strings.Repeat("/x", 33): api.ErrLong, strings.Repeat("/x", 32): api.ErrAbsent,
		"/x": api.ErrAbsent, "/d/x": api.ErrAbsent, "/x/y": api.ErrAbsent, "/d/e/x": api.ErrAbsent,
		"/g/x": api.ErrNotDir, "/d/g/e": api.ErrNotDir, "/free/x": api.ErrNotDir, "/none/x": api.ErrInode, "/far/x": api.ErrInode,
	} {
		stays(t, d, v, want, askWalk(v, three, path))
	}
}

// TestP16_1WalkReads: what can't be read is told, but / is not read at all.
func TestP16_1WalkReads(t *testing.T) {
	_, v := opened(t, newWorld(three).image) // without a root
	if ino, e := Walk(v, three, "/"); ino != 2 || e != api.OK {
		t.Fatal(ino, e)
	}
	for _, b := range []int{2, 3, 10, 4} {
		d, v := opened(t, tower().image)
		answers(t, api.OK, d.Fail(b, 1))
		if ino, e := Walk(v, three, "/"); ino != 2 || e != api.OK {
			t.Fatal(ino, e)
		}
		stays(t, d, v, api.ErrName, askWalk(v, three, "/d/e/"))
		want := api.ErrIO
		if b == 10 { // the block of the inodes 4 to 7: the first two names don't ask for it
			if ino, e := Walk(v, three, "/d/e"); ino != 6 || e != api.OK {
				t.Fatal(ino, e)
			}
		}
		stays(t, d, v, want, askWalk(v, three, "/d/e/x"))
		stays(t, d, v, api.ErrAbsent, askWalk(v, three, "/d/e/x"))
	}
}

// TestP16_1Example: Walk of / is 2, Lookup of .. in the root of a new volume
// too.
func TestP16_1Example(t *testing.T) {
	w := newWorld(one)
	w.root()
	_, v := opened(t, w.image)
	if ino, e := Walk(v, one, "/"); ino != 2 || e != api.OK {
		t.Fatal(ino, e)
	}
	if ino, e := Lookup(v, one, 2, ".."); ino != 2 || e != api.OK {
		t.Fatal(ino, e)
	}
}
