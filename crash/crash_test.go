package crash

import (
	"bytes"
	"math"
	"math/rand"
	"reflect"
	"slices"
	"testing"

	"bollard/api"
	"bollard/disk"
	"bollard/mkfs"
)

const mostSets = 4096

// noDisks are those that no call made.
func noDisks() []*disk.Disk {
	return []*disk.Disk{nil, {}}
}

func answers(t *testing.T, want, e api.Errno) {
	t.Helper()
	if e != want {
		t.Fatalf("%v, want %v", e, want)
	}
}

// full is a block whose bytes are all x.
func full(x byte) []byte {
	return bytes.Repeat([]byte{x}, api.Size)
}

// queued is a disk of blocks of noughts with so many writes in its queue, whose
// numbers are not their places: the one at place i has 100 + i bytes of block i.
func queued(t *testing.T, writes int) *disk.Disk {
	t.Helper()
	d, e := disk.New(70)
	answers(t, api.OK, e)
	for range 5 {
		id, e := d.Write(69, full(69))
		answers(t, api.OK, e)
		answers(t, api.OK, d.Complete(id, true))
	}
	for i := range writes {
		_, e := d.Write(i, full(byte(100+i)))
		answers(t, api.OK, e)
	}
	return d
}

func idsOf(d *disk.Disk) []int {
	var ids []int
	for _, w := range d.Queue() {
		ids = append(ids, w.ID)
	}
	return ids
}

// state is all that a disk tells, or will tell.
type state struct {
	image [][]byte
	queue []api.Sent
	fails []int
	next  int
}

// stateOf asks a copy what asking would use up.
func stateOf(d *disk.Disk) state {
	s := state{image: d.Image(), queue: d.Queue()}
	twin := d.Copy()
	for b := range twin.Blocks() {
		n := 0
		for {
			if _, e := twin.Read(b); e != api.ErrIO {
				break
			}
			n++
		}
		s.fails = append(s.fails, n)
	}
	twin.Crash(nil)
	s.next, _ = twin.Write(0, full(0))
	return s
}

func same(t *testing.T, d *disk.Disk, was state) {
	t.Helper()
	if !reflect.DeepEqual(stateOf(d), was) {
		t.Fatal("the disk has changed")
	}
}

func sameImage(a, b [][]byte) bool {
	return slices.EqualFunc(a, b, bytes.Equal)
}

// setOf is a set by its number, said plainly.
func setOf(ids []int, number uint64) []int {
	var set []int
	for i := range ids {
		if number&(uint64(1)<<i) != 0 {
			set = append(set, ids[i])
		}
	}
	return set
}

func TestP24_1Sets(t *testing.T) {
	d := queued(t, 2)
	if ids := idsOf(d); !slices.Equal(ids, []int{6, 7}) {
		t.Fatal(ids)
	}
	want := [][]int{{}, {6}, {7}, {6, 7}}
	for most, many := range map[int]int{math.MinInt: 0, -1: 0, 0: 0, 1: 1, 2: 2, 3: 3, 4: 4, 5: 4, 4096: 4, 4097: 4, math.MaxInt: 4} {
		if got := Sets(d, most); !slices.EqualFunc(got, want[:many], slices.Equal) {
			t.Fatal(most, got)
		}
	}
}

// TestP24_1SetsOfMany: of queues of any length.
func TestP24_1SetsOfMany(t *testing.T) {
	for writes, many := range map[int]int{0: 1, 1: 2, 3: 8, 11: 2048, 12: 4096, 13: 4096, 63: 4096, 64: 4096} {
		d := queued(t, writes)
		ids := idsOf(d)
		for _, most := range []int{-1, 0, 1, 2, many - 1, many, many + 1, mostSets - 1, mostSets, mostSets + 1, 1 << 40, math.MaxInt} {
			got := Sets(d, most)
			if want := max(min(most, many), 0); len(got) != want {
				t.Fatal(writes, most, len(got), want)
			}
			for k, set := range got {
				if !slices.Equal(set, setOf(ids, uint64(k))) {
					t.Fatal(writes, most, k, set)
				}
			}
		}
	}
}

func TestP24_1Of(t *testing.T) {
	for _, writes := range []int{0, 1, 2, 5, 63, 64} {
		d := queued(t, writes)
		ids := idsOf(d)
		for _, mask := range []uint64{0, 1, 2, 3, 5, 1 << 4, 1 << 62, 1 << 63, math.MaxUint64, math.MaxUint64 - 1, 0xaaaaaaaaaaaaaaaa} {
			want := setOf(ids, mask)
			if got := Of(d, mask); !slices.Equal(got, want) {
				t.Fatal(writes, mask, got, want)
			}
		}
	}
	d := queued(t, 3)
	for number := range uint64(8) { // bits beyond the queue play no part
		for _, beyond := range []uint64{0, 1 << 3, 1 << 63, math.MaxUint64 - 7} {
			if got := Of(d, number|beyond); !slices.Equal(got, Sets(d, 8)[number]) {
				t.Fatal(number, beyond, got)
			}
		}
	}
}

func TestP24_2After(t *testing.T) {
	d := queued(t, 3)
	answers(t, api.OK, d.Fail(1, 3))
	was := stateOf(d)
	for number := range uint64(8) {
		done := Of(d, number)
		for _, order := range [][]int{done, reversed(done)} {
			handed := slices.Clone(order)
			got, e := After(d, handed)
			answers(t, api.OK, e)
			if !slices.Equal(handed, order) {
				t.Fatal("what was handed in has changed")
			}
			want := d.Image()
			for _, w := range d.Queue() {
				if slices.Contains(done, w.ID) {
					want[w.Block] = w.Bytes
				}
			}
			if got == d || !sameImage(got.Image(), want) || len(got.Queue()) != 0 {
				t.Fatal(number, "it has not crashed with just these done")
			}
			if _, e := got.Read(1); e != api.OK {
				t.Fatal("a read fails still")
			}
			if id, e := got.Write(0, full(1)); id != 9 || e != api.OK {
				t.Fatal("it is no copy:", id, e)
			}
			same(t, d, was)
		}
	}
}

func reversed(list []int) []int {
	out := slices.Clone(list)
	slices.Reverse(out)
	return out
}

func TestP24_2AfterRefuses(t *testing.T) {
	d := queued(t, 3) // 6, 7, 8
	answers(t, api.OK, d.Fail(1, 3))
	was := stateOf(d)
	many := make([]int, 1<<20)
	for i := range many {
		many[i] = 6 + i%3
	}
	for _, done := range [][]int{
		{5}, {9}, {0}, {-1}, {1}, {math.MinInt}, {math.MaxInt}, {6, 5}, {5, 6}, {6, 7, 8, 9},
		{6, 6}, {8, 7, 8}, {6, 7, 8, 6}, {6, 7, 8, 8}, {9, 9}, many,
	} {
		handed := slices.Clone(done)
		if got, e := After(d, handed); got != nil || e != api.ErrMask {
			t.Fatal(done, got, e)
		}
		if !slices.Equal(handed, done) {
			t.Fatal("what was handed in has changed")
		}
		same(t, d, was)
	}
	for _, none := range [][]int{nil, {}} {
		got, e := After(d, none)
		answers(t, api.OK, e)
		if !sameImage(got.Image(), d.Image()) {
			t.Fatal("something is done")
		}
	}
	empty := queued(t, 0)
	if got, e := After(empty, []int{1}); got != nil || e != api.ErrMask {
		t.Fatal(got, e)
	}
	if got, e := After(empty, nil); got == nil || e != api.OK {
		t.Fatal(got, e)
	}
}

// TestP24_2Images: those of After of each of Sets.
func TestP24_2Images(t *testing.T) {
	for _, writes := range []int{0, 1, 2, 5} {
		d := queued(t, writes)
		for _, most := range []int{math.MinInt, -1, 0, 1, 3, 1 << writes, math.MaxInt} {
			sets := Sets(d, most)
			images := Images(d, most)
			if len(images) != len(sets) {
				t.Fatal(writes, most, len(images), len(sets))
			}
			for k, done := range sets {
				after, e := After(d, done)
				answers(t, api.OK, e)
				if !sameImage(images[k], after.Image()) {
					t.Fatal(writes, most, k)
				}
			}
		}
	}
	if images := Images(queued(t, 13), math.MaxInt); len(images) != mostSets {
		t.Fatal(len(images))
	}
}

// volumed is a disk with a new volume, and writes in its queue: place 0 is
// harmless, 1 makes it ErrMagic, 2 ErrShape.
func volumed(t *testing.T) *disk.Disk {
	t.Helper()
	image, e := mkfs.Make(api.Geom{Groups: 1, Blocks: 16, Inodes: 8})
	answers(t, api.OK, e)
	d, e := disk.Of(image)
	answers(t, api.OK, e)
	for _, b := range []int{9, 0, 2} {
		_, e := d.Write(b, make([]byte, api.Size))
		answers(t, api.OK, e)
	}
	return d
}

func TestP24_3Worst(t *testing.T) {
	d := volumed(t)
	was := stateOf(d)
	for most, want := range map[int]struct {
		at  int
		why api.Errno
	}{
		math.MinInt: {}, -1: {}, 0: {}, 1: {}, 2: {}, 3: {2, api.ErrMagic}, 4: {2, api.ErrMagic}, 8: {2, api.ErrMagic}, 9: {2, api.ErrMagic}, math.MaxInt: {2, api.ErrMagic},
	} {
		if at, why := Worst(d, most); at != want.at || why != want.why {
			t.Fatal(most, at, why)
		}
	}
	same(t, d, was)

	answers(t, api.ErrIO, d.Complete(2, false)) // without that of block 0
	if at, why := Worst(d, 99); at != 2 || why != api.ErrShape {
		t.Fatal(at, why)
	}
	answers(t, api.ErrIO, d.Complete(3, false))
	if at, why := Worst(d, 99); at != 0 || why != api.OK {
		t.Fatal(at, why)
	}
	noughts, e := disk.New(9)
	answers(t, api.OK, e)
	if at, why := Worst(noughts, 1); at != 0 || why != api.ErrMagic { // the disk's own image
		t.Fatal(at, why)
	}
	if at, why := Worst(noughts, 0); at != 0 || why != api.OK {
		t.Fatal(at, why)
	}
}

// TestP24_3WorstOfMany: it is the first, also far behind.
func TestP24_3WorstOfMany(t *testing.T) {
	image, e := mkfs.Make(api.Geom{Groups: 1, Blocks: 40, Inodes: 8})
	answers(t, api.OK, e)
	for _, bad := range []int{0, 3, 11, 12, 20} { // the place of the write that is refused
		d, e := disk.Of(image)
		answers(t, api.OK, e)
		for i := range 24 {
			b := 10 + i
			if i == bad {
				b = 1 // the header
			}
			_, e := d.Write(b, make([]byte, api.Size))
			answers(t, api.OK, e)
		}
		for _, most := range []int{1, 1 << 11, 1<<11 + 1, mostSets, math.MaxInt} {
			wantAt, want := 0, api.OK
			if first := 1 << bad; first < min(most, mostSets) {
				wantAt, want = first, api.ErrMagic
			}
			if at, why := Worst(d, most); at != wantAt || why != want {
				t.Fatal(bad, most, at, why, "and not", wantAt, want)
			}
		}
	}
}

// TestP24_3NoDisk: of a disk that no call made there is nothing.
func TestP24_3NoDisk(t *testing.T) {
	for _, d := range noDisks() {
		for _, most := range []int{-1, 0, 1, 9, math.MaxInt} {
			if l := Sets(d, most); len(l) != 0 {
				t.Fatal(l)
			}
			if l := Images(d, most); len(l) != 0 {
				t.Fatal(l)
			}
			if at, why := Worst(d, most); at != 0 || why != api.OK {
				t.Fatal(at, why)
			}
		}
		for _, mask := range []uint64{0, 1, math.MaxUint64} {
			if l := Of(d, mask); len(l) != 0 {
				t.Fatal(l)
			}
		}
		for _, done := range [][]int{nil, {}, {1}, {1, 1}, {-1}} { // ErrNil comes ahead of ErrMask
			if after, e := After(d, done); after != nil || e != api.ErrNil {
				t.Fatal(after, e)
			}
		}
	}
}

// TestP24_4EachImage: whatever set of the writes Crash is told, its image is
// among them; the first is the disk's now, the last what all writes leave.
func TestP24_4EachImage(t *testing.T) {
	for seed := range int64(40) {
		source := rand.New(rand.NewSource(seed))
		d, e := disk.New(12)
		answers(t, api.OK, e)
		for range 30 {
			bytes := make([]byte, api.Size)
			source.Read(bytes)
			d.Write(source.Intn(12), bytes)
			if queue := d.Queue(); len(queue) > source.Intn(8) {
				d.Complete(queue[source.Intn(len(queue))].ID, source.Intn(3) > 0)
			}
		}
		images := Images(d, 1<<len(d.Queue()))
		for range 60 {
			var done []int
			for _, w := range d.Queue() {
				if source.Intn(2) == 0 {
					done = append(done, w.ID)
				}
			}
			twin := d.Copy()
			answers(t, api.OK, twin.Crash(done))
			left := twin.Image()
			if !slices.ContainsFunc(images, func(one [][]byte) bool { return sameImage(one, left) }) {
				t.Fatal(seed, done, "is not among them")
			}
		}
		if !sameImage(images[0], d.Image()) {
			t.Fatal("the first is not the disk's now")
		}
		twin := d.Copy()
		for _, w := range d.Queue() {
			answers(t, api.OK, twin.Complete(w.ID, true))
		}
		if !sameImage(images[len(images)-1], twin.Image()) {
			t.Fatal("the last is not what all writes leave")
		}
	}
}

// TestP24_5Stays: no call changes the disk, nor does whoever changes what they
// tell.
func TestP24_5Stays(t *testing.T) {
	d := volumed(t)
	answers(t, api.OK, d.Fail(0, 2))
	answers(t, api.OK, d.Fail(9, 1000))
	was := stateOf(d)
	sets, images, of := Sets(d, 99), Images(d, 99), Of(d, 7)
	Worst(d, 99)
	after, e := After(d, of)
	answers(t, api.OK, e)
	same(t, d, was)

	_, e = after.Write(3, full(3))
	answers(t, api.OK, e)
	answers(t, api.OK, after.Fail(3, 3))
	answers(t, api.OK, after.Crash([]int{4}))
	spoil(of)
	for _, set := range sets {
		spoil(set)
	}
	for _, image := range images {
		for _, block := range image {
			clear(block[:cap(block)])
		}
	}
	same(t, d, was)
	if got := Sets(d, 99); !slices.Equal(got[7], []int{1, 2, 3}) {
		t.Fatal(got)
	}
}

// TestP24_5Memory: no list is shared with another one.
func TestP24_5Memory(t *testing.T) {
	d := volumed(t)
	sets, images := Sets(d, 99), Images(d, 99)
	for k := range sets {
		spoil(sets[k])
		for _, block := range images[k] {
			clear(block[:cap(block)])
		}
		for other := k + 1; other < len(sets); other++ {
			if !slices.Equal(sets[other], setOf([]int{1, 2, 3}, uint64(other))) {
				t.Fatal(k, other, "sets share memory")
			}
			after, _ := After(d, sets[other])
			if !sameImage(images[other], after.Image()) {
				t.Fatal(k, other, "images share memory")
			}
		}
	}
}

// spoil writes all over a list, the room behind its end included.
func spoil(list []int) {
	list = list[:cap(list)]
	for i := range list {
		list[i] = -9
	}
}
