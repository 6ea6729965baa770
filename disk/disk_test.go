package disk

import (
	"bytes"
	"math"
	"reflect"
	"testing"

	"bollard/api"
)

// full is a block whose bytes are all x.
func full(x byte) []byte {
	return bytes.Repeat([]byte{x}, api.Size)
}

func fresh(t *testing.T, blocks int) *Disk {
	t.Helper()
	d, e := New(blocks)
	if e != api.OK || d == nil {
		t.Fatalf("New(%d): %v", blocks, e)
	}
	return d
}

func send(t *testing.T, d *Disk, b int, x byte) int {
	t.Helper()
	id, e := d.Write(b, full(x))
	if e != api.OK {
		t.Fatalf("Write(%d): %v", b, e)
	}
	return id
}

// reads fails unless a block's bytes are all x, by Read and by Image.
func reads(t *testing.T, d *Disk, b int, x byte) {
	t.Helper()
	got, e := d.Read(b)
	if e != api.OK || !bytes.Equal(got, full(x)) {
		t.Fatalf("Read(%d): %x, %v; want all %x", b, got, e, x)
	}
	if got := d.Image()[b]; !bytes.Equal(got, full(x)) {
		t.Fatalf("Image()[%d]: %x; want all %x", b, got, x)
	}
}

// told is all that a disk tells, without using up a failure.
type told struct {
	blocks int
	image  [][]byte
	queue  []api.Sent
	fails  []int
	next   int
}

func tell(d *Disk) told {
	out := told{blocks: d.Blocks(), image: d.Image(), queue: d.Queue()}
	c := d.Copy()
	for b := range c.Blocks() {
		n := 0
		for {
			if _, e := c.Read(b); e != api.ErrIO {
				break
			}
			n++
		}
		out.fails = append(out.fails, n)
	}
	if all := c.Queue(); len(all) > 0 {
		c.Complete(all[0].ID, false)
		out.next, _ = c.Write(all[0].Block, full(0))
	} else {
		out.next, _ = c.Write(0, full(0))
	}
	return out
}

// refuses fails unless a call answers that error, and leaves the disk as it was.
func refuses(t *testing.T, d *Disk, want api.Errno, call func() api.Errno) {
	t.Helper()
	was := tell(d)
	if e := call(); e != want {
		t.Fatalf("%v, want %v", e, want)
	}
	if is := tell(d); !reflect.DeepEqual(is, was) {
		t.Fatal("a call that was refused has changed the disk")
	}
}

func TestP2_1New(t *testing.T) {
	for _, blocks := range []int{math.MinInt, -1, 0, api.MaxDisk + 1, math.MaxInt} {
		if d, e := New(blocks); d != nil || e != api.ErrArg {
			t.Errorf("New(%d): %v, %v", blocks, d, e)
		}
	}
	for _, blocks := range []int{1, 2, 32, api.MaxDisk - 1, api.MaxDisk} {
		d := fresh(t, blocks)
		image := d.Image()
		if d.Blocks() != blocks || len(image) != blocks || len(d.Queue()) != 0 {
			t.Fatalf("New(%d): %d blocks, an image of %d", blocks, d.Blocks(), len(image))
		}
		for b := range blocks {
			if got, e := d.Read(b); e != api.OK || !bytes.Equal(got, full(0)) || !bytes.Equal(image[b], full(0)) {
				t.Fatalf("block %d of %d: %x, %x, %v", b, blocks, got, image[b], e)
			}
		}
	}
}

func TestP2_1Of(t *testing.T) {
	many := func(n int) [][]byte {
		image := make([][]byte, n)
		for b := range image {
			image[b] = full(byte(b))
			image[b][0] = byte(b >> 8)
		}
		return image
	}
	for _, n := range []int{1, 5, api.MaxDisk} {
		d, e := Of(many(n))
		if e != api.OK || d.Blocks() != n || !reflect.DeepEqual(d.Image(), many(n)) {
			t.Fatalf("Of an image of %d blocks: %v", n, e)
		}
		if got, e := d.Read(n - 1); e != api.OK || !bytes.Equal(got, many(n)[n-1]) {
			t.Fatalf("block %d: %x, %v", n-1, got, e)
		}
		if id, e := d.Write(n-1, full(1)); id != 1 || e != api.OK {
			t.Fatalf("the first write: %d, %v", id, e)
		}
	}
	short, long, none := many(3), many(3), many(3)
	short[2] = make([]byte, api.Size-1, api.Size)
	long[0] = make([]byte, api.Size+1)
	none[1] = nil
	for _, image := range [][][]byte{nil, {}, many(api.MaxDisk + 1), short, long, none} {
		if d, e := Of(image); d != nil || e != api.ErrArg {
			t.Errorf("Of an image of %d blocks: %v, %v", len(image), d, e)
		}
	}
}

func TestP2_1Memory(t *testing.T) {
	one := full(1)
	image := [][]byte{one, full(2), one}
	d, _ := Of(image)
	image[1] = nil
	one[0] = 9
	reads(t, d, 0, 1)
	reads(t, d, 1, 2)
	first, second := d.Image(), d.Image()
	for _, list := range first {
		all := list[:cap(list)]
		for i := range all {
			all[i] = 7
		}
	}
	first[1] = nil
	for b, x := range []byte{1, 2, 1} {
		reads(t, d, b, x)
		if !bytes.Equal(second[b], full(x)) {
			t.Fatal("two images share a block")
		}
	}
	fromImage := d.Image()
	clear(fromImage[0])
	if !bytes.Equal(fromImage[2], full(1)) {
		t.Fatal("two blocks of an image share their bytes")
	}
}

func TestP2_2Read(t *testing.T) {
	d := fresh(t, 4)
	id := send(t, d, 2, 5)
	reads(t, d, 2, 0)
	if e := d.Complete(id, true); e != api.OK {
		t.Fatal(e)
	}
	reads(t, d, 2, 5)
	for _, b := range []int{math.MinInt, -1, 4, 5, math.MaxInt} {
		refuses(t, d, api.ErrArg, func() api.Errno {
			got, e := d.Read(b)
			if len(got) != 0 {
				t.Fatalf("Read(%d): %x", b, got)
			}
			return e
		})
	}
	got, _ := d.Read(2)
	other, _ := d.Read(2)
	clear(got[:cap(got)])
	if !bytes.Equal(other, full(5)) {
		t.Fatal("two answers share memory")
	}
	reads(t, d, 2, 5)
}

// failing fails unless just so many reads of a block fail from now on.
func failing(t *testing.T, d *Disk, b, times int) {
	t.Helper()
	for i := range times {
		if got, e := d.Read(b); len(got) != 0 || e != api.ErrIO {
			t.Fatalf("read %d of block %d: %x, %v", i, b, got, e)
		}
	}
	for range 2 {
		if got, e := d.Read(b); len(got) != api.Size || e != api.OK {
			t.Fatalf("block %d behind %d failures: %x, %v", b, times, got, e)
		}
	}
}

func TestP2_2Fail(t *testing.T) {
	d := fresh(t, 3)
	for _, times := range []int{0, 1, 2, 999, 1000} {
		if e := d.Fail(1, times); e != api.OK {
			t.Fatalf("Fail(1, %d): %v", times, e)
		}
		reads(t, d, 0, 0) // other blocks, and images, don't fail
		failing(t, d, 2, 0)
		if len(d.Image()) != 3 {
			t.Fatal("no image")
		}
		failing(t, d, 1, times)
	}
	for _, again := range []int{0, 2, 7} { // from now on: not beside those that were
		d.Fail(1, 5)
		d.Fail(1, again)
		failing(t, d, 1, again)
	}
	d.Fail(0, 1)
	d.Fail(2, 2)
	failing(t, d, 2, 2)
	failing(t, d, 0, 1)
}

func TestP2_2FailRefuses(t *testing.T) {
	d := fresh(t, 3)
	d.Fail(0, 2)
	for _, x := range [][2]int{
		{-1, 1}, {3, 1}, {math.MinInt, 1}, {math.MaxInt, 1}, {-1, 0}, {3, 1001},
		{0, -1}, {0, 1001}, {0, math.MinInt}, {0, math.MaxInt},
	} {
		refuses(t, d, api.ErrArg, func() api.Errno { return d.Fail(x[0], x[1]) })
	}
	failing(t, d, 0, 2)
}

func TestP2_2ReadsThatFailLeaveWritesAlone(t *testing.T) {
	d := fresh(t, 2)
	d.Fail(1, 1)
	id := send(t, d, 1, 4)
	if e := d.Complete(id, true); e != api.OK {
		t.Fatal(e)
	}
	failing(t, d, 1, 1)
	reads(t, d, 1, 4)
}

// nothing fails unless each call of a disk that no call made answers nothing.
func nothing(t *testing.T, d *Disk) {
	t.Helper()
	if d.Blocks() != 0 || len(d.Image()) != 0 || len(d.Queue()) != 0 || d.Copy() != nil {
		t.Fatal("something of a disk that no call made")
	}
	for _, n := range []int{math.MinInt, -1, 0, 1, math.MaxInt} {
		if got, e := d.Read(n); len(got) != 0 || e != api.ErrNil {
			t.Fatal(got, e)
		}
		for _, b := range [][]byte{nil, full(1)} {
			if id, e := d.Write(n, b); id != 0 || e != api.ErrNil {
				t.Fatal(id, e)
			}
		}
		for _, e := range []api.Errno{
			d.Complete(n, true), d.Complete(n, false), d.Fail(n, 1), d.Fail(0, n),
			d.Crash(nil), d.Crash([]int{n}),
		} {
			if e != api.ErrNil {
				t.Fatal(e)
			}
		}
	}
}

func TestDiskMadeByNoCall(t *testing.T) {
	nothing(t, nil)
	nothing(t, &Disk{})
	nothing(t, new(Disk))
}
