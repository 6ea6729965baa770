package cache

import (
	"bytes"
	"math"
	"reflect"
	"slices"
	"testing"

	"bollard/api"
	"bollard/disk"
)

// full is a block whose bytes are all x.
func full(x byte) []byte {
	return bytes.Repeat([]byte{x}, api.Size)
}

// fresh is a cache over a disk whose block b has all bytes b.
func fresh(t *testing.T, blocks, bound int) (*disk.Disk, *Cache) {
	t.Helper()
	image := make([][]byte, blocks)
	for b := range image {
		image[b] = full(byte(b))
	}
	d, e := disk.Of(image)
	if e != api.OK {
		t.Fatal(e)
	}
	c, e := New(d, bound)
	if e != api.OK || c == nil {
		t.Fatalf("New(%d): %v", bound, e)
	}
	return d, c
}

// turn has a block of the disk all bytes x, behind the cache's back.
func turn(t *testing.T, d *disk.Disk, b int, x byte) {
	t.Helper()
	id, e := d.Write(b, full(x))
	if e != api.OK || d.Complete(id, true) != api.OK {
		t.Fatal(e)
	}
}

func gets(t *testing.T, c *Cache, b int, x byte) {
	t.Helper()
	if got, e := c.Get(b); e != api.OK || !bytes.Equal(got, full(x)) {
		t.Fatalf("Get(%d): %x, %v; want all %x", b, got, e, x)
	}
}

func answers(t *testing.T, want, got api.Errno) {
	t.Helper()
	if got != want {
		t.Fatalf("%v, want %v", got, want)
	}
}

func holds(t *testing.T, c *Cache, want ...int) {
	t.Helper()
	if got := c.Held(); !slices.Equal(got, want) {
		t.Fatalf("held: %v, want %v", got, want)
	}
}

func counts(t *testing.T, c *Cache, hits, misses int) {
	t.Helper()
	if h, m := c.Hits(); h != hits || m != misses {
		t.Fatalf("%d hits, %d misses; want %d, %d", h, m, hits, misses)
	}
}

// wrong are numbers of blocks that a disk of so many has not.
func wrong(blocks int) []int {
	return []int{math.MinInt, math.MinInt32, -2, -1, blocks, blocks + 1, math.MaxInt32, math.MaxInt}
}

// told is all that a cache tells without being changed by it.
type told struct {
	held, bytes  []int
	pins         []int
	hits, misses int
}

// tell looks behind the face, where a call would count as a use.
func tell(c *Cache) told {
	out := told{held: c.Held()}
	out.hits, out.misses = c.Hits()
	for _, b := range out.held {
		for _, x := range c.buffers[b].bytes {
			out.bytes = append(out.bytes, int(x))
		}
		out.pins = append(out.pins, c.buffers[b].pins)
	}
	return out
}

// stays fails unless a call answers that number, and leaves the cache as it
// was.
func stays(t *testing.T, c *Cache, want api.Errno, call func() api.Errno) {
	t.Helper()
	was := tell(c)
	answers(t, want, call())
	if is := tell(c); !reflect.DeepEqual(is, was) {
		t.Fatalf("the call has changed the cache: %v, was %v", is, was)
	}
}

func TestP6_1New(t *testing.T) {
	d, e := disk.New(3)
	answers(t, api.OK, e)
	for _, bound := range []int{1, 2, api.MaxCache - 1, api.MaxCache} {
		c, e := New(d, bound)
		if e != api.OK || c == nil {
			t.Fatalf("New(%d): %v", bound, e)
		}
		holds(t, c)
		counts(t, c, 0, 0)
	}
	for _, bound := range []int{math.MinInt, -1, 0, api.MaxCache + 1, math.MaxInt} {
		if c, e := New(d, bound); c != nil || e != api.ErrArg {
			t.Errorf("New(%d): %v, %v", bound, c, e)
		}
		for _, none := range []*disk.Disk{nil, {}} { // both errors: the first that is named
			if c, e := New(none, bound); c != nil || e != api.ErrNil {
				t.Errorf("New(none, %d): %v, %v", bound, c, e)
			}
		}
	}
	for _, none := range []*disk.Disk{nil, {}} {
		if c, e := New(none, 1); c != nil || e != api.ErrNil {
			t.Errorf("New over a disk that no call made: %v, %v", c, e)
		}
	}
}

func TestP6_1NewReadsNothing(t *testing.T) {
	d, _ := disk.New(2)
	d.Fail(0, 1)
	New(d, 2)
	if _, e := d.Read(0); e != api.ErrIO {
		t.Fatal("New has read a block")
	}
}

// nothing fails unless each call of a cache that no call made answers nothing.
func nothing(t *testing.T, c *Cache) {
	t.Helper()
	for _, b := range []int{math.MinInt, -1, 0, 1, math.MaxInt} {
		if got, e := c.Get(b); len(got) != 0 || e != api.ErrNil {
			t.Fatalf("Get(%d): %x, %v", b, got, e)
		}
		for _, list := range [][]byte{nil, full(1)} {
			answers(t, api.ErrNil, c.Put(b, list))
		}
		answers(t, api.ErrNil, c.Drop(b))
		answers(t, api.ErrNil, c.Pin(b))
		answers(t, api.ErrNil, c.Unpin(b))
	}
	holds(t, c)
	counts(t, c, 0, 0)
}

func TestP6_1NoCallMadeIt(t *testing.T) {
	nothing(t, nil)
	nothing(t, &Cache{})
	nothing(t, new(Cache))
}

func TestP6_2GetRefuses(t *testing.T) {
	for _, blocks := range []int{1, 5} {
		_, c := fresh(t, blocks, 2)
		gets(t, c, 0, 0)
		for _, b := range wrong(blocks) {
			stays(t, c, api.ErrArg, func() api.Errno { // not even a miss
				got, e := c.Get(b)
				if len(got) != 0 {
					t.Fatalf("Get(%d): %x", b, got)
				}
				return e
			})
		}
		gets(t, c, blocks-1, byte(blocks-1))
	}
}

func TestP6_2HitsAndMisses(t *testing.T) {
	_, c := fresh(t, 8, 2)
	for _, b := range []int{1, 2, 1, 3} { // the chapter's example
		gets(t, c, b, byte(b))
	}
	holds(t, c, 1, 3)
	counts(t, c, 1, 3)
	gets(t, c, 2, 2)
	holds(t, c, 3, 2)
	gets(t, c, 2, 2)
	gets(t, c, 3, 3)
	holds(t, c, 2, 3)
	counts(t, c, 3, 4)
}

func TestP6_2OldestGoesFirst(t *testing.T) {
	for _, bound := range []int{1, 2, 3, api.MaxCache} {
		_, c := fresh(t, 2*api.MaxCache+1, bound)
		var want []int
		for b := range 2*api.MaxCache + 1 {
			gets(t, c, b, byte(b))
			want = append(want, b)
			if len(want) > bound {
				want = want[1:]
			}
			holds(t, c, want...)
		}
		first := want[0]
		gets(t, c, first, byte(first))
		want = append(want[1:], first)
		holds(t, c, want...)
		gets(t, c, 0, 0)
		holds(t, c, append(want[1:], 0)...)
	}
}

func TestP6_2OldestThatIsNotPinned(t *testing.T) {
	_, c := fresh(t, 9, 3)
	for b := range 3 {
		gets(t, c, b, byte(b))
	}
	answers(t, api.OK, c.Pin(0)) // used last now
	holds(t, c, 1, 2, 0)
	gets(t, c, 1, 1)
	gets(t, c, 2, 2)
	holds(t, c, 0, 1, 2)
	gets(t, c, 5, 5)
	holds(t, c, 0, 2, 5) // 1 went: 0 is older, and pinned
	answers(t, api.OK, c.Unpin(0))
	holds(t, c, 0, 2, 5)
	gets(t, c, 6, 6)
	holds(t, c, 2, 5, 6)
}

func TestP6_2AllPinned(t *testing.T) {
	d, c := fresh(t, 6, 2)
	answers(t, api.OK, c.Pin(3))
	answers(t, api.OK, c.Pin(1))
	counts(t, c, 0, 2)
	d.Fail(4, 1)
	for i := range 3 {
		got, e := c.Get(4)
		if len(got) != 0 || e != api.ErrPinned {
			t.Fatalf("Get: %x, %v", got, e)
		}
		answers(t, api.ErrPinned, c.Pin(4))
		counts(t, c, 0, 4+2*i) // a miss in any case
		holds(t, c, 3, 1)
	}
	gets(t, c, 3, 3)
	holds(t, c, 1, 3)
	answers(t, api.ErrArg, c.Pin(6))
	answers(t, api.OK, c.Unpin(3))
	if _, e := c.Get(4); e != api.ErrIO {
		t.Fatalf("%v: a call that told ErrPinned has read the disk", e)
	}
	gets(t, c, 4, 4)
	holds(t, c, 1, 4)
}

func TestP6_2PinnedButRoom(t *testing.T) {
	_, c := fresh(t, 6, 3)
	answers(t, api.OK, c.Pin(0))
	answers(t, api.OK, c.Pin(1))
	gets(t, c, 2, 2) // all are pinned, and fewer than bound
	holds(t, c, 0, 1, 2)
	gets(t, c, 3, 3)
	holds(t, c, 0, 1, 3)
}

func TestP6_2ReadFails(t *testing.T) {
	d, c := fresh(t, 6, 2)
	gets(t, c, 1, 1)
	gets(t, c, 2, 2)
	d.Fail(3, 2)
	for i := range 2 {
		if got, e := c.Get(3); len(got) != 0 || e != api.ErrIO {
			t.Fatalf("Get: %x, %v", got, e)
		}
		holds(t, c, 1, 2) // nothing was dropped for it
		counts(t, c, 0, 3+i)
	}
	gets(t, c, 3, 3)
	holds(t, c, 2, 3)
	d.Fail(2, 1)
	gets(t, c, 2, 2) // held: the disk is not read
	counts(t, c, 1, 5)
	if _, e := d.Read(2); e != api.ErrIO {
		t.Fatal("a hit has read the disk")
	}
}

func TestP6_2Memory(t *testing.T) {
	d, c := fresh(t, 3, 2)
	missed, _ := c.Get(1)
	hit, _ := c.Get(1)
	clear(missed[:cap(missed)])
	if !bytes.Equal(hit, full(1)) {
		t.Fatal("two answers share memory")
	}
	clear(hit[:cap(hit)])
	gets(t, c, 1, 1)
	if got, _ := d.Read(1); !bytes.Equal(got, full(1)) {
		t.Fatal("an answer is the disk's memory")
	}
}

func TestP6_3Put(t *testing.T) {
	d, c := fresh(t, 6, 2)
	gets(t, c, 1, 1)
	gets(t, c, 2, 2)
	answers(t, api.OK, c.Put(1, full(77)))
	holds(t, c, 1, 2) // how long ago it was used stays
	counts(t, c, 0, 2)
	gets(t, c, 1, 77)
	if got, _ := d.Read(1); !bytes.Equal(got, full(1)) {
		t.Fatal("Put has written to the disk")
	}
	if len(d.Queue()) != 0 {
		t.Fatal("Put has sent a write")
	}
	stays(t, c, api.OK, func() api.Errno { return c.Put(5, full(9)) }) // not held: nothing happens
	gets(t, c, 5, 5)
	holds(t, c, 1, 5)
	answers(t, api.OK, c.Pin(5))
	answers(t, api.OK, c.Put(5, full(50)))
	gets(t, c, 5, 50)
	answers(t, api.OK, c.Unpin(5)) // still pinned once
	answers(t, api.ErrState, c.Unpin(5))
}

func TestP6_3PutRefuses(t *testing.T) {
	_, c := fresh(t, 4, 2)
	gets(t, c, 1, 1)
	for _, b := range wrong(4) {
		stays(t, c, api.ErrArg, func() api.Errno { return c.Put(b, full(9)) })
		stays(t, c, api.ErrArg, func() api.Errno { return c.Put(b, nil) })
	}
	for _, list := range [][]byte{nil, {}, full(9)[:api.Size-1], append(full(9), 9)} {
		stays(t, c, api.ErrArg, func() api.Errno { return c.Put(1, list) })
		stays(t, c, api.ErrArg, func() api.Errno { return c.Put(2, list) }) // held or not
	}
}

func TestP6_3PutMemory(t *testing.T) {
	_, c := fresh(t, 4, 2)
	gets(t, c, 1, 1)
	whole := append(full(8), 1, 2, 3)
	answers(t, api.OK, c.Put(1, whole[:api.Size]))
	if !bytes.Equal(whole, append(full(8), 1, 2, 3)) {
		t.Fatal("Put changed what it was handed")
	}
	clear(whole)
	gets(t, c, 1, 8)
	got, _ := c.Get(1)
	clear(got[:cap(got)])
	gets(t, c, 1, 8)
}

func TestP6_3Drop(t *testing.T) {
	d, c := fresh(t, 6, 3)
	for b := 1; b <= 3; b++ {
		gets(t, c, b, byte(b))
	}
	answers(t, api.OK, c.Put(2, full(70)))
	turn(t, d, 2, 60)
	answers(t, api.OK, c.Drop(2))
	holds(t, c, 1, 3)
	counts(t, c, 0, 3)
	stays(t, c, api.OK, func() api.Errno { return c.Drop(2) }) // it is held no more
	stays(t, c, api.OK, func() api.Errno { return c.Drop(5) })
	gets(t, c, 2, 60) // what Put told is gone
	holds(t, c, 1, 3, 2)
	counts(t, c, 0, 4)
}

func TestP6_3DropRefuses(t *testing.T) {
	_, c := fresh(t, 4, 2)
	gets(t, c, 1, 1)
	for _, b := range wrong(4) {
		stays(t, c, api.ErrArg, func() api.Errno { return c.Drop(b) })
	}
	answers(t, api.OK, c.Pin(1))
	answers(t, api.OK, c.Pin(1))
	stays(t, c, api.ErrState, func() api.Errno { return c.Drop(1) })
	answers(t, api.OK, c.Unpin(1))
	stays(t, c, api.ErrState, func() api.Errno { return c.Drop(1) })
	answers(t, api.OK, c.Unpin(1))
	answers(t, api.OK, c.Drop(1))
	holds(t, c)
}

func TestP6_4Pin(t *testing.T) {
	d, c := fresh(t, 6, 2)
	answers(t, api.OK, c.Pin(1)) // with what Get does: a miss, and it is held
	holds(t, c, 1)
	counts(t, c, 0, 1)
	gets(t, c, 2, 2)
	answers(t, api.OK, c.Pin(1)) // a hit, and used last
	holds(t, c, 2, 1)
	counts(t, c, 1, 2)
	for _, b := range wrong(6) {
		stays(t, c, api.ErrArg, func() api.Errno { return c.Pin(b) })
	}
	d.Fail(3, 1)
	answers(t, api.ErrIO, c.Pin(3))
	counts(t, c, 1, 3)
	holds(t, c, 2, 1)
	stays(t, c, api.ErrState, func() api.Errno { return c.Unpin(3) }) // a pin that failed is none
	answers(t, api.OK, c.Pin(3))
	holds(t, c, 1, 3)
	answers(t, api.ErrPinned, c.Pin(4))
}

func TestP6_4MaxPins(t *testing.T) {
	_, c := fresh(t, 4, 2)
	gets(t, c, 2, 2)
	for range api.MaxPins {
		answers(t, api.OK, c.Pin(1))
	}
	counts(t, c, api.MaxPins-1, 2)
	gets(t, c, 2, 2)
	holds(t, c, 1, 2)
	answers(t, api.ErrState, c.Pin(1)) // one too many; what Get does is done
	holds(t, c, 2, 1)
	counts(t, c, api.MaxPins+1, 2)
	answers(t, api.OK, c.Pin(2)) // each has pins of its own
	for range api.MaxPins {
		answers(t, api.ErrState, c.Drop(1))
		answers(t, api.OK, c.Unpin(1))
	}
	stays(t, c, api.ErrState, func() api.Errno { return c.Unpin(1) })
	answers(t, api.OK, c.Pin(1))
	answers(t, api.OK, c.Unpin(1))
	answers(t, api.OK, c.Drop(1))
}

func TestP6_4Unpin(t *testing.T) {
	_, c := fresh(t, 5, 2)
	gets(t, c, 1, 1)
	gets(t, c, 2, 2)
	answers(t, api.OK, c.Pin(1))
	gets(t, c, 2, 2)
	for _, b := range wrong(5) {
		stays(t, c, api.ErrArg, func() api.Errno { return c.Unpin(b) })
	}
	stays(t, c, api.ErrState, func() api.Errno { return c.Unpin(2) }) // held, not pinned
	stays(t, c, api.ErrState, func() api.Errno { return c.Unpin(4) }) // not held
	answers(t, api.OK, c.Unpin(1))
	holds(t, c, 1, 2) // no use
	counts(t, c, 2, 2)
	stays(t, c, api.ErrState, func() api.Errno { return c.Unpin(1) })
	gets(t, c, 3, 3)
	holds(t, c, 2, 3)
	gets(t, c, 1, 1) // held anew: without pins
	stays(t, c, api.ErrState, func() api.Errno { return c.Unpin(1) })
}

func TestP6_5HeldIsNewMemory(t *testing.T) {
	_, c := fresh(t, 5, 3)
	for b := range 3 {
		gets(t, c, b, byte(b))
	}
	got := c.Held()
	clear(got[:cap(got)])
	holds(t, c, 0, 1, 2)
	for range 3 {
		c.Held() // telling is no use
		c.Hits()
	}
	holds(t, c, 0, 1, 2)
	counts(t, c, 0, 3)
}

func TestP6_6PinnedStays(t *testing.T) {
	_, c := fresh(t, 40, 4)
	answers(t, api.OK, c.Pin(7))
	answers(t, api.OK, c.Pin(30))
	for b := range 40 {
		gets(t, c, b, byte(b))
		held := c.Held()
		if len(held) > 4 || !slices.Contains(held, 7) || !slices.Contains(held, 30) {
			t.Fatalf("held: %v", held)
		}
	}
}

func TestP6_7TellsWhatTheDiskHas(t *testing.T) {
	d, c := fresh(t, 6, 2)
	gets(t, c, 1, 1)
	turn(t, d, 1, 91)
	gets(t, c, 1, 1) // held: what the disk had
	answers(t, api.OK, c.Put(1, full(91)))
	gets(t, c, 1, 91)
	turn(t, d, 2, 92)
	gets(t, c, 2, 92) // not held: what it has
	d.Write(3, full(93))
	gets(t, c, 3, 3) // a write that is not done
	answers(t, api.OK, c.Put(2, full(99)))
	gets(t, c, 2, 99)
	gets(t, c, 4, 4) // 3 goes
	gets(t, c, 5, 5) // 2 goes, and with it what Put told
	gets(t, c, 2, 92)
}

func TestP6_7CachesOfOneDisk(t *testing.T) {
	d, one := fresh(t, 4, 2)
	other, _ := New(d, 2)
	gets(t, one, 1, 1)
	gets(t, other, 1, 1)
	answers(t, api.OK, one.Put(1, full(9)))
	answers(t, api.OK, one.Pin(1))
	gets(t, other, 1, 1)
	answers(t, api.OK, other.Drop(1))
	gets(t, one, 1, 9)
	holds(t, other)
	counts(t, other, 1, 1)
	counts(t, one, 2, 1)
}
