package snap

import (
	"sync"
	"testing"
	"time"

	"bollard/api"
)

// TestGuard: of many calls at once just one drops a snapshot, and the others
// are told so.
func TestGuard(t *testing.T) {
	_, v := fresh(t, 8, 3)
	for range 50 {
		s := take(t, v, small, 1, 8)
		var all sync.WaitGroup
		drops := make([]api.Errno, 8)
		for n := range drops {
			all.Go(func() {
				s.Read(n)
				v.Change(n, 0, []byte{byte(n)}, nil)
				drops[n] = s.Drop()
				s.Image()
				s.Kept()
				s.Broken()
			})
		}
		all.Wait()
		dropped := 0
		for _, e := range drops {
			if e == api.OK {
				dropped++
			} else {
				answers(t, api.ErrGone, e)
			}
		}
		if dropped != 1 {
			t.Fatalf("%d calls have dropped it", dropped)
		}
	}
}

// TestGuardIsAsked: while somebody has the guard, each call waits. (None that
// is right fails here, however slow the machine is.)
func TestGuardIsAsked(t *testing.T) {
	_, v := fresh(t, 8, 3)
	s := take(t, v, small, 1, 8)
	calls := []func(){
		func() { s.Read(0) },
		func() { s.Image() },
		func() { s.Kept() },
		func() { s.Broken() },
		func() { s.Drop() },
	}
	ended := make(chan int, len(calls))
	s.guard.Lock()
	for n, call := range calls {
		go func() {
			call()
			ended <- n
		}()
	}
	select {
	case n := <-ended:
		t.Errorf("call %d has not asked for the guard", n)
		ended <- n
	case <-time.After(50 * time.Millisecond):
	}
	s.guard.Unlock()
	for range calls { // all of them let it go
		<-ended
	}
}
