package volume

import (
	"sync"
	"testing"
	"time"

	"bollard/api"
)

// TestGuard: calls from many sides at once are made one by one.
func TestGuard(t *testing.T) {
	const users, each = 8, 200
	d, v := fresh(t, users, 3)
	var all sync.WaitGroup
	for n := range users {
		all.Go(func() {
			for i := range each {
				if _, e := v.Change(n, i%api.Size, []byte{byte(i)}, nil); e != api.OK {
					t.Error(e)
				}
				v.Write(n)
				v.Complete(0, i%5 > 0)
				v.Freeze(users)
				if _, e := v.Read((n + 1) % users); e != api.OK {
					t.Error(e)
				}
				v.Old(n)
				v.Thaw()
				v.Undo(v.Last() + 1)
				if i%50 == 0 {
					v.Sync([]int{1})
				}
				v.IsDone(len(v.Dirty()) + len(v.Ready()) + len(v.Way()) + len(v.Pending(n)) + v.Kept() + v.Blocks())
				v.Broken()
			}
		})
	}
	all.Wait()
	if v.Last() != users*each {
		t.Fatalf("%d patches, want %d", v.Last(), users*each)
	}
	var ids []int
	for id := range v.Last() {
		ids = append(ids, id+1)
	}
	answers(t, api.OK, v.Sync(ids))
	same(t, "dirty", v.Dirty())
	for b, has := range d.Image() {
		for i, x := range has {
			want := i
			if i+api.Size < each {
				want += api.Size
			}
			if x != byte(want) {
				t.Fatalf("block %d, byte %d: %d, want %d", b, i, x, want)
			}
		}
	}
}

// TestGuardIsAsked: while somebody has the guard, each call waits. (None that
// is right fails here, however slow the machine is.)
func TestGuardIsAsked(t *testing.T) {
	_, v := fresh(t, 4, 3)
	change(t, v, 1, 1, 0, 9)
	calls := []func(){
		func() { v.Read(0) },
		func() { v.Change(0, 0, []byte{1}, nil) },
		func() { v.Last() },
		func() { v.Undo(1) },
		func() { v.Dirty() },
		func() { v.Pending(1) },
		func() { v.Ready() },
		func() { v.Way() },
		func() { v.Write(1) },
		func() { v.Complete(0, true) },
		func() { v.IsDone(1) },
		func() { v.Sync([]int{1}) },
		func() { v.Freeze(1) },
		func() { v.Thaw() },
		func() { v.Old(1) },
		func() { v.Kept() },
		func() { v.Broken() },
	}
	ended := make(chan int, len(calls))
	v.guard.Lock()
	for n, call := range calls {
		go func() {
			call()
			ended <- n
		}()
	}
	select {
	case n := <-ended:
		t.Errorf("call %d has not asked for the guard", n)
		ended <- n
	case <-time.After(50 * time.Millisecond):
	}
	v.guard.Unlock()
	for range calls { // all of them let it go
		<-ended
	}
}
