package audit

import (
	"bytes"
	"math/rand"
	"slices"
	"strconv"
	"testing"

	"bollard/api"
	"bollard/scan"
)

// anyWorld is a volume that is accepted, in which things leak, files have holes
// and bytes behind their ends, and, now and then, a directory has two names.
func anyWorld(source *rand.Rand) *world {
	inodes := 4 * (1 + source.Intn(5))
	w := newWorld(api.Geom{Groups: 1 + source.Intn(3), Inodes: inodes, Blocks: max(8, 3+inodes/4) + source.Intn(60)})
	dirs, files := []int{2}, []int{}
	for ino := 3; ino < w.g.Groups*w.g.Inodes && len(w.free()) > 8; ino++ {
		up := dirs[source.Intn(len(dirs))]
		switch kind := source.Intn(12); {
		case kind == 0: // free
		case kind == 1:
			w.inode(ino, true)
		case kind == 2:
			w.add(ino, 1+source.Intn(2))
			w.inode(ino, source.Intn(2) == 0)
			w.anyBlocks(source, ino)
		case kind < 6:
			w.dir(up, ino, strconv.Itoa(ino))
			dirs = append(dirs, ino)
		default:
			w.file(up, ino, strconv.Itoa(ino))
			w.anyBlocks(source, ino)
			w.size(ino, w.anySize(source, ino))
			files = append(files, ino)
		}
	}
	w.anyNames(source, dirs, files)
	if len(w.free()) > 0 && source.Intn(3) == 0 {
		w.take()
	}
	return w
}

func (w *world) anyBlocks(source *rand.Rand, ino int) {
	for range source.Intn(5) {
		if len(w.free()) > 8 {
			w.letters(ino, []int{0, 1, 2, 3, 4, 5, 67, 68, 69, 131, 132, 4163}[source.Intn(12)], byte(1+source.Intn(255)))
		}
	}
}

// anySize is one near a block's edge, or anywhere.
func (w *world) anySize(source *rand.Rand, ino int) int {
	edge := 128 * []int{0, 1, 3, 4, 5, 68, 69, 132, 4164}[source.Intn(9)]
	return min(max(edge+source.Intn(3)*source.Intn(200)-source.Intn(140), 0), api.MaxFile)
}

// anyNames is further ones of files, and rarely of a directory; and links that
// are too many.
func (w *world) anyNames(source *rand.Rand, dirs, files []int) {
	for i := range source.Intn(12) {
		if len(files) == 0 || len(w.free()) < 4 {
			return
		}
		ino := files[source.Intn(len(files))]
		if source.Intn(40) == 0 {
			ino = dirs[source.Intn(len(dirs))]
		}
		w.again(dirs[source.Intn(len(dirs))], ino, "again"+strconv.Itoa(i))
		if source.Intn(4) == 0 {
			w.links(ino, w.get(ino).Links+1)
		}
	}
}

// TestP26_5Wild: over many images all that is told is what the chapter says, and
// an image's own tree is held.
func TestP26_5Wild(t *testing.T) {
	held, refused := 0, 0
	for seed := range int64(500) {
		w := anyWorld(rand.New(rand.NewSource(seed)))
		answers(t, api.OK, scan.Accept(w.image))
		if told(t, w) != nil {
			held++
		} else {
			refused++
		}
	}
	if held < 250 || refused < 25 {
		t.Fatal(held, refused)
	}
}

// hurt changes some bytes, whatever comes of it.
func (w *world) hurt(source *rand.Rand) {
	b, other := source.Intn(len(w.image)), source.Intn(len(w.image))
	ino := source.Intn(w.g.Groups * w.g.Inodes)
	switch source.Intn(9) {
	case 0:
		source.Read(w.image[b])
	case 1:
		w.image[b][source.Intn(128)] ^= 1 << source.Intn(8)
	case 2:
		copy(w.image[b], w.image[other])
	case 3:
		clear(w.image[b])
	case 4:
		w.block(b, source.Intn(2) == 0)
	case 5:
		w.inode(ino, source.Intn(2) == 0)
	case 6:
		copy(w.raw(ino), w.raw(source.Intn(w.g.Groups*w.g.Inodes)))
	case 7:
		turn(w.image[b], 0, source.Intn(128), source.Intn(2) == 0)
	case 8:
		page := w.image[b]
		copy(page[16*source.Intn(8):], page[16*source.Intn(8):][:16])
	}
}

// TestP26_1AnyBytes is P5: whatever an image's bytes are, the calls end, and tell
// scan's error, or what the chapter says.
func TestP26_1AnyBytes(t *testing.T) {
	causes := map[api.Errno]int{}
	for seed := range int64(2000) {
		source := rand.New(rand.NewSource(seed))
		w := anyWorld(source)
		for range 1 + source.Intn(3) {
			w.hurt(source)
		}
		e := scan.Accept(w.image)
		causes[e]++
		told(t, w)
	}
	for _, e := range []api.Errno{api.OK, api.ErrForm, api.ErrSum, api.ErrMagic, api.ErrUnset, api.ErrShape, api.ErrOut} {
		if causes[e] < 5 {
			t.Fatal(e, causes)
		}
	}
	for seed := range int64(200) {
		source := rand.New(rand.NewSource(seed))
		image := make([][]byte, source.Intn(40))
		for b := range image {
			image[b] = make([]byte, max(128, source.Intn(130)))
			source.Read(image[b])
		}
		refused(t, scan.Accept(image), image)
	}
}

// TestP26_3TwoCalls: they answer the same.
func TestP26_3TwoCalls(t *testing.T) {
	for seed := range int64(60) {
		w := anyWorld(rand.New(rand.NewSource(seed)))
		was := w.copyOf()
		for range 2 {
			one, e := Tree(w.image)
			other, why := Tree(was.image)
			if e != why || !one.Same(other) {
				t.Fatal(seed, e, why)
			}
			lines, _ := Print(w.image)
			again, _ := Print(was.image)
			if !slices.Equal(lines, again) || !slices.EqualFunc(w.image, was.image, bytes.Equal) {
				t.Fatal(seed, lines, again)
			}
		}
	}
}
