package scan

import (
	"bytes"
	"math/rand"
	"reflect"
	"slices"
	"strconv"
	"testing"

	"bollard/api"
	"bollard/dirs"
	"bollard/layout"
)

// builder builds a volume that is accepted, in which things leak.
type builder struct {
	*world
	source *rand.Rand
	dirs   []int // that are reached
	truth  map[int]int
}

func anyWorld(source *rand.Rand) *world {
	inodes := 4 * (1 + source.Intn(4))
	g := api.Geom{Groups: 1 + source.Intn(3), Inodes: inodes, Blocks: max(8, 3+inodes/4) + source.Intn(40)}
	b := &builder{world: newWorld(g), source: source, dirs: []int{2}, truth: map[int]int{2: 2}}
	for ino := 3; ino < g.Groups*g.Inodes; ino++ {
		b.anyInode(ino)
	}
	for ino, n := range b.truth {
		if source.Intn(5) == 0 {
			n += source.Intn(3)
		}
		b.links(ino, n)
	}
	if source.Intn(3) == 0 {
		b.take()
	}
	return b.world
}

func (b *builder) room() int {
	n := 0
	for at := range b.image {
		if bit := at % b.g.Blocks; bit >= b.data() && !isSet(b.image[at-bit+1], 12, bit) {
			n++
		}
	}
	return n
}

func (b *builder) anyInode(ino int) {
	kind := b.source.Intn(10)
	up := b.dirs[b.source.Intn(len(b.dirs))]
	switch {
	case kind == 0: // free
	case kind == 1:
		b.inode(ino, true)
	case kind == 2:
		b.add(ino, 1+b.source.Intn(2))
		b.inode(ino, b.source.Intn(2) == 0)
		b.anyBlocks(ino)
	case kind < 6 && b.room() > 4:
		if b.name(up, ino, strconv.Itoa(ino)) {
			b.add(ino, api.ModeDir)
			b.page(ino, 0, entry(ino, "."), entry(up, ".."))
			b.truth[ino]++
			b.truth[up]++
			b.dirs = append(b.dirs, ino)
		}
	default:
		if b.room() > 4 && b.name(up, ino, strconv.Itoa(ino)) {
			b.add(ino, api.ModeFile)
			b.anyBlocks(ino)
			if again := b.dirs[b.source.Intn(len(b.dirs))]; b.source.Intn(3) == 0 && b.room() > 4 {
				b.name(again, ino, "again"+strconv.Itoa(ino))
			}
		}
	}
}

// anyBlocks gives an inode some blocks, near the edges of its addresses.
func (b *builder) anyBlocks(ino int) {
	for range b.source.Intn(4) {
		if b.room() > 3 {
			b.grow(ino, []int{0, 1, 3, 4, 5, 67, 68, 69, 131, 132, 4163}[b.source.Intn(11)])
		}
	}
}

// name puts a name into a directory, if there is room.
func (b *builder) name(dir, ino int, name string) bool {
	for i := range b.get(dir).Size/128 + 1 {
		at := b.addr(dir, i)
		if i == b.get(dir).Size/128 {
			b.page(dir, i)
			at = b.addr(dir, i)
		}
		if b.source.Intn(3) == 0 && b.room() > 3 && i < 5 {
			continue // so that directories have several blocks
		}
		page, _, e := dirs.With(b.image[at], entry(ino, name))
		if e == api.OK {
			copy(b.image[at], page)
			b.truth[ino]++
			return true
		}
	}
	return false
}

// hurt changes one thing, whatever comes of it.
func hurt(source *rand.Rand, w *world) {
	inodes := w.g.Groups * w.g.Inodes
	ino, b := source.Intn(inodes), source.Intn(len(w.image))
	page := w.anyPage(source)
	from, to := 16*source.Intn(8), 16*source.Intn(8)
	switch source.Intn(14) {
	case 0:
		turn(w.image[b/w.g.Blocks*w.g.Blocks+1], 4, source.Intn(w.g.Inodes), source.Intn(2) == 0)
	case 1:
		w.block(b, source.Intn(2) == 0)
	case 2:
		w.image[b][source.Intn(128)] ^= byte(1 << source.Intn(8))
	case 3, 4, 5:
		w.hurtInode(source, ino)
	case 6, 7:
		page[to], page[to+1] = byte(source.Intn(inodes+2)), 0
	case 8:
		copy(page[to:to+16], page[from:from+16])
	case 9:
		clear(page[to : to+16])
	case 10:
		bytes, _ := layout.EncodeEntry(entry(1+source.Intn(inodes), []string{"x", "y", ".", ".."}[source.Intn(4)]))
		copy(page[to:], bytes)
	case 11:
		w.fan(b, source.Intn(64), source.Intn(len(w.image)+5))
	case 12:
		clear(w.raw(ino))
	case 13:
		w.hurtWhole(source, b)
	}
}

// anyPage is a block of a directory, whether that is reached or not.
func (w *world) anyPage(source *rand.Rand) []byte {
	var pages [][]byte
	for ino := range w.g.Groups * w.g.Inodes {
		d, e := layout.DecodeDinode(w.raw(ino))
		if e == api.OK && d.Mode == api.ModeDir {
			for _, at := range d.Direct {
				if at > 0 && at < len(w.image) {
					pages = append(pages, w.image[at])
				}
			}
		}
	}
	if len(pages) == 0 {
		return w.image[len(w.image)-1]
	}
	return pages[source.Intn(len(pages))]
}

func (w *world) hurtInode(source *rand.Rand, ino int) {
	d, e := layout.DecodeDinode(w.raw(ino))
	if e != api.OK {
		return
	}
	if d.Mode == 0 {
		d.Mode = 1
	}
	any := source.Intn(len(w.image) + 2)
	switch source.Intn(7) {
	case 0:
		d.Mode = 1 + source.Intn(2)
		d.Size -= d.Size % 128
	case 1:
		d.Links = source.Intn(5)
	case 2:
		d.Size = 128 * source.Intn(8)
	case 3, 4:
		d.Direct[source.Intn(4)] = any
	case 5:
		d.Single = any
	case 6:
		d.Double = any
	}
	w.put(ino, d)
}

func (w *world) hurtWhole(source *rand.Rand, b int) {
	header := w.image[b/w.g.Blocks*w.g.Blocks+1]
	switch source.Intn(6) {
	case 0:
		header[2] ^= 1
	case 1:
		header[source.Intn(4)]++
	case 2:
		header[100] = byte(source.Intn(2))
	case 3:
		w.image[0][source.Intn(128)]++
	default:
		if source.Intn(2) == 0 {
			clear(w.image[b])
		}
	}
}

// TestP18AsTheBook: all calls tell what the book tells, of volumes that are
// right, and of such as were hurt once, or a few times.
func TestP18AsTheBook(t *testing.T) {
	met := map[api.Errno]int{}
	for seed := range int64(4000) {
		source := rand.New(rand.NewSource(seed))
		w := anyWorld(source)
		image := w.image
		for times := source.Intn(4); times > 0; times-- {
			hurt(source, w)
		}
		switch source.Intn(60) {
		case 0:
			image = image[:len(image)-1]
		case 1:
			image[source.Intn(len(image))] = make([]byte, 127+2*source.Intn(2))
		}
		got, want := tell(t, image), readBook(image)
		if want.accept != api.OK {
			got.geom, want.geom = api.Geom{}, api.Geom{}
		}
		if !reflect.DeepEqual(got, want) {
			t.Fatalf("seed %d: %+v, want %+v", seed, got, want)
		}
		met[want.accept]++
	}
	for _, e := range []api.Errno{api.OK, api.ErrForm, api.ErrSum, api.ErrMagic, api.ErrGeom, api.ErrOut, api.ErrTwice, api.ErrUnset, api.ErrLow, api.ErrShape} {
		if met[e] < 10 {
			t.Fatal("too few images that answer", e, met)
		}
	}
}

// TestP18BuiltIsAccepted: what the tests build is right, until it is hurt.
func TestP18BuiltIsAccepted(t *testing.T) {
	for seed := range int64(1000) {
		w := anyWorld(rand.New(rand.NewSource(seed)))
		if e := Accept(w.image); e != api.OK {
			t.Fatal(seed, e)
		}
	}
}

// TestP18_5BeyondAny: the bytes of blocks that no inode has play no part.
func TestP18_5BeyondAny(t *testing.T) {
	for seed := range int64(500) {
		source := rand.New(rand.NewSource(seed))
		w := anyWorld(source)
		want := tell(t, w.image)
		for b := range w.image {
			had := slices.ContainsFunc(want.claims, func(c api.Claim) bool { return c.Block == b })
			if b%w.g.Blocks >= w.data() && !had || b > 0 && b%w.g.Blocks == 0 {
				source.Read(w.image[b])
			}
		}
		if got := tell(t, w.image); !reflect.DeepEqual(got, want) {
			t.Fatal(seed, got, want)
		}
	}
}

// TestP18AnyBytes: whatever an image's bytes are, all calls end.
func TestP18AnyBytes(t *testing.T) {
	for seed := range int64(2000) {
		source := rand.New(rand.NewSource(seed))
		w := town()
		for range 1 + source.Intn(3) {
			b := source.Intn(len(w.image))
			switch source.Intn(3) {
			case 0:
				source.Read(w.image[b])
			case 1:
				copy(w.image[b], bytes.Repeat([]byte{byte(source.Intn(256))}, 128))
			case 2:
				copy(w.image[b], w.image[source.Intn(len(w.image))])
			}
		}
		got, want := tell(t, w.image), readBook(w.image)
		if want.accept != api.OK {
			got.geom, want.geom = api.Geom{}, api.Geom{}
		}
		if !reflect.DeepEqual(got, want) {
			t.Fatalf("seed %d: %+v, want %+v", seed, got, want)
		}
	}
}
