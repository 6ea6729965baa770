package file

import (
	"bytes"
	"math/rand"
	"slices"
	"testing"

	"bollard/api"
	"bollard/layout"
	"bollard/volume"
)

// user has files, writes and truncates them, and knows what their bytes are. A
// file's bytes are noughts, and letters that no other file has.
type user struct {
	t      *testing.T
	source *rand.Rand
	p      *pair
	files  map[int][]byte
}

func newUser(t *testing.T, seed int64, g api.Geom) *user {
	k := newBook(g)
	files := map[int][]byte{}
	for ino := 3; ino < g.Groups*g.Inodes; ino += 2 {
		k.put(ino, api.Dinode{Mode: api.ModeFile, Links: 1})
		files[ino] = nil
	}
	return &user{t: t, source: rand.New(rand.NewSource(seed)), p: newPair(t, k.anew()), files: files}
}

func (u *user) anyFile() int {
	return 3 + 2*u.source.Intn(len(u.files))
}

// anyPlace is one that is likely to be near others, and near to where Direct,
// Single and Double begin.
func (u *user) anyPlace() int {
	i := []int{0, 1, 3, 4, 5, 66, 68, 69, 131, 195, 4163}[u.source.Intn(11)]
	return min(i*128+u.source.Intn(260), api.MaxFile)
}

func letter(ino int) byte {
	return byte('0' + ino)
}

// trial makes a call of the volume, and its like of a copy of the book, which
// the book is from then on, unless there is an error.
func (u *user) trial(call func(v *volume.Volume) ([]int, api.Errno), like func(k *book) ([]int, api.Errno)) api.Errno {
	u.t.Helper()
	k := *u.p.book
	k.now = cloned(k.now)
	want, why := like(&k)
	got, e := call(u.p.v)
	if e != why || e == api.OK && !slices.Equal(got, want) || e != api.OK && len(got) > 0 {
		u.t.Fatalf("it tells %v, %v; want %v, %v", got, e, want, why)
	}
	if e == api.OK {
		u.p.book = &k
	}
	u.p.same()
	return e
}

func (u *user) write() {
	ino, off := u.anyFile(), u.anyPlace()
	n := min(u.source.Intn(3)*u.source.Intn(250), api.MaxFile-off)
	b := bytes.Repeat([]byte{letter(ino)}, n)
	e := u.trial(func(v *volume.Volume) ([]int, api.Errno) { return Write(v, u.p.book.g, ino, off, b) },
		func(k *book) ([]int, api.Errno) { return k.write(ino, off, b) })
	if e == api.OK && n > 0 {
		u.files[ino] = sized(u.files[ino], max(len(u.files[ino]), off+n))
		copy(u.files[ino][off:], b)
	}
}

// sized is bytes with so many in all: less, or noughts behind.
func sized(b []byte, n int) []byte {
	return append(slices.Clone(b[:min(n, len(b))]), make([]byte, max(0, n-len(b)))...)
}

func (u *user) truncate() {
	ino, size := u.anyFile(), u.anyPlace()
	u.trial(func(v *volume.Volume) ([]int, api.Errno) { return Truncate(v, u.p.book.g, ino, size) },
		func(k *book) ([]int, api.Errno) { return k.truncate(ino, size), api.OK })
	u.files[ino] = sized(u.files[ino], size)
}

// read holds a part of a file, or all of it, against what it should be.
func (u *user) read() {
	ino, off, n := u.anyFile(), u.anyPlace(), u.source.Intn(600)
	if u.source.Intn(10) == 0 {
		off, n = 0, api.MaxFile
	}
	want := u.files[ino][min(off, len(u.files[ino])):]
	want = want[:min(n, len(want))]
	if got, e := Read(u.p.v, u.p.book.g, ino, off, n); !bytes.Equal(got, want) || e != api.OK {
		u.t.Fatalf("file %d, %d bytes from %d on: %x, %v", ino, n, off, got, e)
	}
}

// sync gets all to the disk, and begins anew with what is there.
func (u *user) sync() {
	var ids []int
	for id := 1; id <= u.p.v.Last(); id++ {
		ids = append(ids, id)
	}
	answers(u.t, api.OK, u.p.v.Sync(ids))
	k := u.p.book.anew()
	for b, bytes := range u.p.disk.Image() {
		if string(bytes) != string(k.now[b]) {
			u.t.Fatalf("block %d is not on the disk", b)
		}
	}
	u.p = newPair(u.t, k)
}

func (u *user) step() {
	switch what := u.source.Intn(20); {
	case what < 6:
		u.write()
	case what < 9:
		u.truncate()
	case what < 13:
		u.read()
	case what < 19:
		u.p.work(u.source, 6)
		u.p.same()
	default:
		u.sync()
	}
}

// TestP15_4Model: what was written is read, by this volume and by the next.
func TestP15_4Model(t *testing.T) {
	for seed := range int64(24) {
		u := newUser(t, seed, []api.Geom{small, one, two}[seed%3])
		for range 120 {
			u.step()
		}
		u.sync()
		for range 20 {
			u.read()
		}
	}
}

// TestP15_4GrowsAgain: what was beyond the end is noughts when the file grows
// again, by a size or by bytes, wherever it was cut.
func TestP15_4GrowsAgain(t *testing.T) {
	for _, size := range sizes() {
		for _, grow := range []func(v *volume.Volume) ([]int, api.Errno){
			func(v *volume.Volume) ([]int, api.Errno) { return Truncate(v, one, 3, api.MaxFile) },
			func(v *volume.Volume) ([]int, api.Errno) { return Write(v, one, 3, api.MaxFile-1, []byte{0}) },
		} {
			k := dense(t)
			want := sized(sized(k.read(3, 0, api.MaxFile), size), api.MaxFile)
			_, v := open(t, k.now)
			_, e := Truncate(v, one, 3, size)
			answers(t, api.OK, e)
			_, e = grow(v)
			answers(t, api.OK, e)
			if got, e := Read(v, one, 3, 0, api.MaxFile); !bytes.Equal(got, want) || e != api.OK {
				t.Fatal(size, len(got), e)
			}
		}
	}
}

// TestP15_5Room: with each number of blocks left a write has room, or all is as
// it was.
func TestP15_5Room(t *testing.T) {
	for _, c := range []struct{ off, n, needs int }{
		{0, 1, 1}, {127, 2, 2}, {0, 512, 4}, {512, 1, 2}, {511, 2, 3}, {500, 500, 6}, {67*128 + 127, 2, 5}, {68 * 128, 1, 3}, {132*128 - 1, 2, 5}, {api.MaxFile - 129, 129, 4},
	} {
		for left := range c.needs + 1 {
			k := newBook(small).take(left)
			d, v := open(t, k.now)
			_, e := v.Change(7, 0, []byte{1}, nil)
			answers(t, api.OK, e)
			if left < c.needs {
				stays(t, d, v, api.ErrSpace, askWrite(v, small, 3, c.off, letters(c.n)), askWrite(v, small, 3, c.off, letters(c.n)))
				continue
			}
			if _, e := Write(v, small, 3, c.off, letters(c.n)); e != api.OK {
				t.Fatal(c, e)
			}
			stays(t, d, v, api.ErrSpace, askWrite(v, small, 3, 20*128, letters(1))) // a block that it has not
			_, e = Truncate(v, small, 3, 0)
			answers(t, api.OK, e)
			if _, e := Write(v, small, 3, c.off, letters(c.n)); e != api.OK { // what it had is given again
				t.Fatal(c, e)
			}
		}
	}
}

// onDisk fails unless each block to which a file leads on the disk is allocated
// there, has no byte but noughts and that file's, and no other file has it.
func (u *user) onDisk() {
	u.t.Helper()
	k := &book{g: u.p.book.g, now: u.p.disk.Image()}
	owner := map[int]int{}
	for ino := range u.files {
		d := k.get(ino)
		for _, b := range k.span(d) {
			if k.isFree(b) || owner[b] != 0 {
				u.t.Fatalf("block %d of file %d is free, or has two owners", b, ino)
			}
			owner[b] = ino
		}
		for i := range 4164 {
			if b := k.addr(d, i); b != 0 && len(bytes.Trim(k.now[b], string([]byte{0, letter(ino)}))) > 0 {
				u.t.Fatalf("block %d of file %d has others' bytes: %x", b, ino, k.now[b])
			}
		}
	}
}

// TestP15_6NeverAnothers: whatever was written of the volume, no address on the
// disk leads to bytes of another file, or of nobody.
func TestP15_6NeverAnothers(t *testing.T) {
	for seed := range int64(24) {
		u := newUser(t, 100+seed, []api.Geom{small, small, one}[seed%3])
		for range 60 {
			u.step()
			u.onDisk()
		}
	}
}

// TestP15_6Order: the inode waits for the bytes of a new block, and these for
// its bit.
func TestP15_6Order(t *testing.T) {
	d, v := open(t, newBook(one).now)
	ids, e := Write(v, one, 3, 0, letters(128))
	answers(t, api.OK, e)
	for _, b := range []int{1, 4, 2} { // the header, the block, the inode
		if got := v.Ready(); !slices.Equal(got, []int{b}) {
			t.Fatalf("ready are %v, want %d", got, b)
		}
		answers(t, api.OK, v.Write(b))
		answers(t, api.OK, v.Complete(0, true))
	}
	if !v.IsDone(ids[1]) || string(d.Image()[4]) != string(letters(128)) {
		t.Fatal(ids)
	}
	if ino, e := layout.DecodeDinode(d.Image()[2][96:]); ino.Direct[0] != 4 || ino.Size != 128 || e != api.OK {
		t.Fatal(ino, e)
	}
}
