package disk

import (
	"bytes"
	"math"
	"reflect"
	"testing"

	"bollard/api"
)

func TestP2_3WriteNumbers(t *testing.T) {
	d := fresh(t, 4)
	for i, b := range []int{3, 0, 2} {
		if id := send(t, d, b, byte(10+i)); id != i+1 {
			t.Fatalf("write %d has the number %d", i, id)
		}
	}
	want := []api.Sent{{ID: 1, Block: 3, Bytes: full(10)}, {ID: 2, Block: 0, Bytes: full(11)}, {ID: 3, Block: 2, Bytes: full(12)}}
	if got := d.Queue(); !reflect.DeepEqual(got, want) {
		t.Fatalf("%v", got)
	}
	d.Complete(3, false) // numbers go on, whatever becomes of the writes
	if id := send(t, d, 2, 1); id != 4 {
		t.Fatal(id)
	}
	d.Write(2, full(1))
	d.Write(9, full(1))
	if id := send(t, d, 1, 1); id != 5 {
		t.Fatal("a write that was refused used up a number", id)
	}
	d.Crash(nil)
	if id := send(t, d, 1, 1); id != 6 {
		t.Fatal("a crash begins the numbers anew", id)
	}
}

func TestP2_3WriteRefuses(t *testing.T) {
	d := fresh(t, 4)
	send(t, d, 1, 7)
	write := func(b int, bytes []byte) func() api.Errno {
		return func() api.Errno {
			id, e := d.Write(b, bytes)
			if id != 0 {
				t.Fatalf("Write(%d): %d, %v", b, id, e)
			}
			return e
		}
	}
	for _, b := range []int{math.MinInt, -1, 4, math.MaxInt} {
		refuses(t, d, api.ErrArg, write(b, full(1)))
	}
	for _, list := range [][]byte{nil, {}, full(1)[:api.Size-1], append(full(1), 1)} {
		refuses(t, d, api.ErrArg, write(0, list))
		refuses(t, d, api.ErrArg, write(1, list)) // and busy: the first that is named
	}
	refuses(t, d, api.ErrBusy, write(1, full(7)))
	d.Complete(1, true)
	send(t, d, 1, 8) // no more busy
}

func TestP2_3QueueIsFull(t *testing.T) {
	d := fresh(t, api.MaxQueue+2)
	for b := range api.MaxQueue {
		if id := send(t, d, b, byte(b)); id != b+1 {
			t.Fatal(id)
		}
	}
	over := func(b int, bytes []byte) func() api.Errno {
		return func() api.Errno {
			id, e := d.Write(b, bytes)
			if id != 0 {
				t.Fatal(id)
			}
			return e
		}
	}
	refuses(t, d, api.ErrState, over(api.MaxQueue, full(1)))
	refuses(t, d, api.ErrBusy, over(api.MaxQueue-1, full(1))) // busy is named ahead of full
	refuses(t, d, api.ErrArg, over(-1, full(1)))
	refuses(t, d, api.ErrArg, over(api.MaxQueue, nil))
	if got := d.Queue(); len(got) != api.MaxQueue || got[api.MaxQueue-1].ID != api.MaxQueue {
		t.Fatal(len(got))
	}
	d.Complete(30, true)
	if id := send(t, d, api.MaxQueue, 1); id != api.MaxQueue+1 {
		t.Fatal(id)
	}
}

func TestP2_3Memory(t *testing.T) {
	d := fresh(t, 2)
	whole := append(full(3), 1, 2, 3)
	d.Write(1, whole[:api.Size])
	if !bytes.Equal(whole, append(full(3), 1, 2, 3)) {
		t.Fatal("Write changed what it was handed")
	}
	clear(whole)
	got := d.Queue()
	if !bytes.Equal(got[0].Bytes, full(3)) {
		t.Fatal("Write kept what it was handed")
	}
	all := got[0].Bytes[:cap(got[0].Bytes)]
	clear(all)
	got[0].ID = 77
	if again := d.Queue(); again[0].ID != 1 || !bytes.Equal(again[0].Bytes, full(3)) {
		t.Fatal("Queue hands out its own memory")
	}
	d.Complete(1, true)
	reads(t, d, 1, 3)
}

func TestP2_3Complete(t *testing.T) {
	d := fresh(t, 4)
	for b := range 4 {
		send(t, d, b, byte(b+1))
	}
	if e := d.Complete(2, true); e != api.OK {
		t.Fatal(e)
	}
	if e := d.Complete(3, false); e != api.ErrIO {
		t.Fatal(e)
	}
	want := []api.Sent{{ID: 1, Block: 0, Bytes: full(1)}, {ID: 4, Block: 3, Bytes: full(4)}}
	if got := d.Queue(); !reflect.DeepEqual(got, want) {
		t.Fatalf("%v", got)
	}
	for b, x := range []byte{0, 2, 0, 0} {
		reads(t, d, b, x)
	}
	for _, id := range []int{math.MinInt, -1, 0, 2, 3, 5, math.MaxInt} {
		for _, ok := range []bool{true, false} {
			refuses(t, d, api.ErrWrite, func() api.Errno { return d.Complete(id, ok) })
		}
	}
	send(t, d, 1, 9)
	if e := d.Complete(5, false); e != api.ErrIO {
		t.Fatal(e)
	}
	reads(t, d, 1, 2) // what it had
}

func TestP2_4Crash(t *testing.T) {
	d := fresh(t, 4)
	for b := range 4 {
		send(t, d, b, byte(b+1))
	}
	d.Fail(0, 3)
	d.Fail(3, 1000)
	for _, done := range [][]int{{5}, {0}, {-1}, {1, 2, 5}, {math.MinInt}, {4, math.MaxInt, 1}} {
		refuses(t, d, api.ErrWrite, func() api.Errno { return d.Crash(done) })
	}
	done := []int{4, 2, 9, 9}
	if e := d.Crash(done[:2]); e != api.OK {
		t.Fatal(e)
	}
	if !reflect.DeepEqual(done, []int{4, 2, 9, 9}) {
		t.Fatal("Crash changed what it was handed")
	}
	if len(d.Queue()) != 0 {
		t.Fatal("writes are left behind a crash")
	}
	for b, x := range []byte{0, 2, 0, 4} {
		reads(t, d, b, x) // none fails
	}
	refuses(t, d, api.ErrWrite, func() api.Errno { return d.Crash([]int{1}) })
	refuses(t, d, api.ErrWrite, func() api.Errno { return d.Complete(1, true) })
	send(t, d, 0, 8) // no more busy
}

func TestP2_4CrashOfNoneAndOfTheSame(t *testing.T) {
	for _, none := range [][]int{nil, {}} {
		d := fresh(t, 2)
		send(t, d, 1, 5)
		d.Fail(1, 1)
		if e := d.Crash(none); e != api.OK || len(d.Queue()) != 0 {
			t.Fatal(e)
		}
		reads(t, d, 1, 0)
		if e := d.Crash(none); e != api.OK {
			t.Fatal(e)
		}
	}
	d := fresh(t, 2)
	id := send(t, d, 1, 5)
	if e := d.Crash([]int{id, id, id}); e != api.OK { // each of them is in the queue
		t.Fatal(e)
	}
	reads(t, d, 1, 5)
}

func TestP2_4Copy(t *testing.T) {
	d := fresh(t, 5)
	for b := range 4 {
		send(t, d, b, byte(b+1))
	}
	d.Complete(2, true)
	d.Fail(4, 2)
	c := d.Copy()
	was := tell(d)
	if c == d || !reflect.DeepEqual(tell(c), was) {
		t.Fatal("a copy is another")
	}
	change := func(d *Disk) {
		d.Read(4)
		d.Fail(0, 1)
		d.Complete(1, true)
		d.Complete(3, false)
		d.Write(1, full(50))
		d.Write(0, full(51))
		d.Complete(5, true)
	}
	change(c)
	if !reflect.DeepEqual(tell(d), was) {
		t.Fatal("what was done on the copy is seen on the disk")
	}
	other := d.Copy()
	change(d)
	if !reflect.DeepEqual(tell(other), was) {
		t.Fatal("what was done on the disk is seen on the copy")
	}
	if !reflect.DeepEqual(tell(c), tell(d)) {
		t.Fatal("the same calls, and not the same")
	}
	other.Crash(nil)
	if len(d.Queue()) != 2 {
		t.Fatal("a crash of the copy is one of the disk")
	}
}

func TestP2_5NotDoneIsNotTold(t *testing.T) {
	d := fresh(t, 6)
	send(t, d, 0, 9)
	d.Complete(1, true)
	was := d.Image()
	for b := range 6 {
		send(t, d, b, byte(b+20))
	}
	if !reflect.DeepEqual(d.Image(), was) {
		t.Fatal("a write that is not done is told by Image")
	}
	for b := range 6 {
		if got, e := d.Read(b); e != api.OK || !bytes.Equal(got, was[b]) {
			t.Fatal("a write that is not done is told by Read")
		}
	}
	for _, w := range d.Queue() {
		d.Complete(w.ID, false)
	}
	if !reflect.DeepEqual(d.Image(), was) {
		t.Fatal("a write that failed is told")
	}
}

func TestP2_6CompleteOfAllIsCrashWithAll(t *testing.T) {
	d := fresh(t, api.MaxQueue)
	send(t, d, 3, 99)
	d.Complete(1, true)
	for b := range api.MaxQueue {
		send(t, d, (b*5)%api.MaxQueue, byte(b+1))
	}
	var ids, back []int
	for _, w := range d.Queue() {
		ids = append(ids, w.ID)
		back = append([]int{w.ID}, back...)
	}
	for _, order := range [][]int{ids, back} {
		one, crashed := d.Copy(), d.Copy()
		for _, id := range order {
			if e := one.Complete(id, true); e != api.OK {
				t.Fatal(e)
			}
		}
		if e := crashed.Crash(order); e != api.OK {
			t.Fatal(e)
		}
		if !reflect.DeepEqual(tell(one), tell(crashed)) || len(one.Queue()) != 0 {
			t.Fatal("not the same")
		}
	}
}
