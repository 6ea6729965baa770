package check

import (
	"bytes"
	"math/rand"
	"slices"
	"strconv"
	"testing"

	"bollard/api"
	"bollard/dirs"
	"bollard/layout"
	"bollard/scan"
	"bollard/volume"
)

// builder builds a volume that is accepted, in which things leak.
type builder struct {
	*world
	source *rand.Rand
	dirs   []int // that are reached
	truth  map[int]int
}

func anyWorld(source *rand.Rand) *world {
	inodes := 4 * (1 + source.Intn(4))
	g := api.Geom{Groups: 1 + source.Intn(3), Inodes: inodes, Blocks: max(8, 3+inodes/4) + source.Intn(40)}
	b := &builder{world: newWorld(g), source: source, dirs: []int{2}, truth: map[int]int{2: 2}}
	for ino := 3; ino < b.inodes(); ino++ {
		b.anyInode(ino)
	}
	for ino := range b.inodes() {
		if n := b.truth[ino]; n > 0 {
			if source.Intn(4) == 0 {
				n += source.Intn(3)
			}
			b.links(ino, n)
		}
	}
	for range source.Intn(4) {
		if l := b.free(); len(l) > 0 {
			b.block(l[source.Intn(len(l))], true)
		}
	}
	return b.world
}

func (b *builder) anyInode(ino int) {
	kind := b.source.Intn(10)
	up := b.dirs[b.source.Intn(len(b.dirs))]
	switch {
	case kind == 0: // free
	case kind == 1:
		b.inode(ino, true)
	case kind == 2:
		b.add(ino, 1+b.source.Intn(2))
		b.inode(ino, b.source.Intn(2) == 0)
		b.anyBlocks(ino)
	case kind < 6 && len(b.free()) > 4:
		if b.name(up, ino, strconv.Itoa(ino)) {
			b.add(ino, api.ModeDir)
			b.page(ino, 0, entry(ino, "."), entry(up, ".."))
			b.truth[ino]++
			b.truth[up]++
			b.dirs = append(b.dirs, ino)
		}
	default:
		if len(b.free()) > 4 && b.name(up, ino, strconv.Itoa(ino)) {
			b.add(ino, api.ModeFile)
			b.anyBlocks(ino)
			if again := b.dirs[b.source.Intn(len(b.dirs))]; b.source.Intn(3) == 0 && len(b.free()) > 4 {
				b.name(again, ino, "again"+strconv.Itoa(ino))
			}
		}
	}
}

// anyBlocks gives an inode some blocks, near the edges of its addresses.
func (b *builder) anyBlocks(ino int) {
	for range b.source.Intn(4) {
		if len(b.free()) > 3 {
			b.grow(ino, []int{0, 1, 3, 4, 5, 67, 68, 69, 131, 132, 4163}[b.source.Intn(11)])
		}
	}
}

// name puts a name into a directory, if there is room.
func (b *builder) name(dir, ino int, name string) bool {
	for i := range b.get(dir).Size/128 + 1 {
		if i == b.get(dir).Size/128 {
			b.page(dir, i)
		}
		if b.source.Intn(3) == 0 && len(b.free()) > 3 && i < 5 {
			continue // so that directories have several blocks
		}
		at := b.addr(dir, i)
		page, _, e := dirs.With(b.image[at], entry(ino, name))
		if e == api.OK {
			copy(b.image[at], page)
			b.truth[ino]++
			return true
		}
	}
	return false
}

// hurt changes one thing, whatever comes of it.
func hurt(source *rand.Rand, w *world) {
	ino, b := source.Intn(w.inodes()), source.Intn(len(w.image))
	header := w.image[b/w.g.Blocks*w.g.Blocks+1]
	page := w.anyPage(source)
	from, to := 16*source.Intn(8), 16*source.Intn(8)
	switch source.Intn(14) {
	case 0:
		turn(header, 4, source.Intn(w.g.Inodes), source.Intn(2) == 0)
	case 1:
		w.block(b, source.Intn(2) == 0)
	case 2:
		w.image[b][source.Intn(128)] ^= byte(1 << source.Intn(8))
	case 3, 4, 5:
		w.hurtInode(source, ino)
	case 6, 7:
		page[to], page[to+1] = byte(source.Intn(w.inodes()+2)), 0
	case 8:
		copy(page[to:to+16], page[from:from+16])
	case 9:
		clear(page[to : to+16])
	case 10:
		bytes, _ := layout.EncodeEntry(entry(1+source.Intn(w.inodes()), []string{"x", "y", ".", ".."}[source.Intn(4)]))
		copy(page[to:], bytes)
	case 11:
		w.fan(b, source.Intn(64), source.Intn(len(w.image)+5))
	case 12:
		clear(w.raw(ino))
	case 13:
		header[[]int{0, 1, 2, 3, 100}[source.Intn(5)]]++
	}
}

// anyPage is a block of a directory, whether that is reached or not.
func (w *world) anyPage(source *rand.Rand) []byte {
	var pages [][]byte
	for ino := range w.inodes() {
		d, e := layout.DecodeDinode(w.raw(ino))
		if e == api.OK && d.Mode == api.ModeDir {
			for _, at := range d.Direct {
				if at > 0 && at < len(w.image) {
					pages = append(pages, w.image[at])
				}
			}
		}
	}
	if len(pages) == 0 {
		return w.image[len(w.image)-1]
	}
	return pages[source.Intn(len(pages))]
}

func (w *world) hurtInode(source *rand.Rand, ino int) {
	d, e := layout.DecodeDinode(w.raw(ino))
	if e != api.OK {
		return
	}
	if d.Mode == 0 {
		d.Mode = 1
	}
	any := source.Intn(len(w.image) + 2)
	switch source.Intn(7) {
	case 0:
		d.Mode = 1 + source.Intn(2)
		d.Size -= d.Size % 128
	case 1:
		d.Links = source.Intn(5)
	case 2:
		d.Size = 128 * source.Intn(8)
	case 3, 4:
		d.Direct[source.Intn(4)] = any
	case 5:
		d.Single = any
	case 6:
		d.Double = any
	}
	w.put(ino, d)
}

// TestP19AsTheBook: all steps are those of the book, of volumes that are right,
// and of such as were hurt once, or a few times.
func TestP19AsTheBook(t *testing.T) {
	right, wrong, many := 0, 0, [4]int{}
	for seed := range int64(3000) {
		source := rand.New(rand.NewSource(seed))
		w := anyWorld(source)
		for times := source.Intn(5); times > 0; times-- {
			hurt(source, w)
		}
		gen := 1 + source.Intn(99)
		_, _, s := taken(t, w, gen, 0, 1+source.Intn(64))
		got, want := run(t, begun(t, s)), readBook(w, gen)
		if !sameSteps(got, want) {
			t.Fatalf("seed %d: %v, want %v", seed, got, want)
		}
		if scan.Accept(w.image) == api.OK {
			right++
		} else {
			wrong++
		}
		for kind, l := range kinds(asked(got)) {
			many[kind] += len(l)
		}
	}
	if right < 300 || wrong < 300 || many[1] < 300 || many[2] < 300 || many[3] < 300 {
		t.Fatal("these are no wild images:", right, wrong, many)
	}
}

// TestP19AnyBytes: whatever an image's bytes are, it comes to its end.
func TestP19AnyBytes(t *testing.T) {
	for seed := range int64(2000) {
		source := rand.New(rand.NewSource(seed))
		w := lost()
		for range 1 + source.Intn(4) {
			b := source.Intn(len(w.image))
			switch source.Intn(4) {
			case 0:
				source.Read(w.image[b])
			case 1:
				copy(w.image[b], bytes.Repeat([]byte{byte(source.Intn(256))}, 128))
			case 2:
				copy(w.image[b], w.image[source.Intn(len(w.image))])
			case 3: // addresses that may be
				for place := range 64 {
					w.fan(b, place, source.Intn(66))
				}
			}
		}
		if got, want := run(t, ofWorld(t, w)), readBook(w, 1); !sameSteps(got, want) {
			t.Fatalf("seed %d: %v, want %v", seed, got, want)
		}
	}
}

// TestP19_4Leaks: of an image that is accepted all that leaks is asked, and
// nothing else, each once; P19.5: in as many steps as there are at most.
func TestP19_4Leaks(t *testing.T) {
	for seed := range int64(1500) {
		source := rand.New(rand.NewSource(seed))
		w := anyWorld(source)
		found, e := scan.Leaks(w.image)
		answers(t, api.OK, e)
		var want []api.Request
		for _, l := range found.Links {
			want = append(want, lower(l.Ino, l.True))
		}
		for _, ino := range found.Inodes {
			want = append(want, api.Request{Kind: api.FreeInode, N: ino, Gen: 1})
		}
		for _, b := range found.Blocks {
			want = append(want, api.Request{Kind: api.FreeBlock, N: b, Gen: 1})
		}
		c := ofWorld(t, w)
		l := run(t, c)
		got := asked(l)
		slices.SortFunc(got, order)
		slices.SortFunc(want, order)
		if !slices.Equal(got, want) || len(l) > c.Steps() {
			t.Fatal(seed, got, want)
		}
	}
}

func order(a, b api.Request) int {
	return (a.Kind-b.Kind)*10000 + a.N - b.N
}

// TestP19_6UsersGoOn: whatever is changed, written, undone since the snapshot
// was taken, the steps are the same, until it breaks: from then on there are
// none.
func TestP19_6UsersGoOn(t *testing.T) {
	broke, came := 0, 0
	for seed := range int64(400) {
		source := rand.New(rand.NewSource(seed))
		w := anyWorld(source)
		want := run(t, ofWorld(t, w))
		_, v, s := taken(t, w, 1, source.Intn(40), 1+source.Intn(5))
		c := begun(t, s)
		var got []done
		for !c.Done() && !s.Broken() {
			for range source.Intn(4) {
				anyChange(t, source, v)
			}
			if s.Broken() {
				refuses(t, c, api.ErrState)
				continue
			}
			got = append(got, stepped(t, c))
		}
		if len(got) > len(want) || !sameSteps(got, want[:len(got)]) {
			t.Fatal(seed, got, want)
		}
		if c.Done() {
			came++
		} else {
			broke++
			refuses(t, c, api.ErrState)
		}
	}
	if broke < 20 || came < 20 {
		t.Fatal(broke, came)
	}
}

func anyChange(t *testing.T, source *rand.Rand, v *volume.Volume) {
	t.Helper()
	b := source.Intn(min(20, v.Blocks()))
	last := v.Last()
	_, e := v.Change(b, source.Intn(120), []byte{byte(source.Intn(256)), 1, 2}, nil)
	answers(t, api.OK, e)
	if ready := v.Ready(); len(ready) > 0 && source.Intn(3) == 0 {
		answers(t, api.OK, v.Write(ready[source.Intn(len(ready))]))
		v.Complete(0, source.Intn(2) == 0)
	} else if source.Intn(3) == 0 {
		answers(t, api.OK, v.Undo(last))
	}
}
