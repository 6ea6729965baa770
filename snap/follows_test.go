package snap

import (
	"math/rand"
	"testing"

	"bollard/api"
	"bollard/volume"
)

// trouble does one thing to a volume. What it takes back was changed behind
// least.
func trouble(t *testing.T, source *rand.Rand, v *volume.Volume, least int) {
	t.Helper()
	b, last := source.Intn(v.Blocks()), v.Last()
	switch source.Intn(8) {
	case 0, 1, 2:
		var needs []int
		if last > 0 {
			needs = append(needs, 1+source.Intn(last))
		}
		put := make([]byte, 1+source.Intn(9))
		source.Read(put)
		if _, e := v.Change(b, source.Intn(api.Size-8), put, needs); e != api.OK {
			t.Fatal(e)
		}
	case 3, 4:
		v.Write(b)
	case 5:
		v.Complete(0, source.Intn(4) > 0)
	case 6:
		if len(v.Way()) == 0 { // else what is sent gets there all the same
			v.Undo(max(least, last-source.Intn(3)))
		}
	case 7:
		if last > 0 && source.Intn(4) == 0 {
			answers(t, api.OK, v.Sync([]int{1 + source.Intn(last)}))
		}
	}
}

func TestP10_4TheSameUntilBrokenOrDropped(t *testing.T) {
	for seed := range int64(40) {
		source := rand.New(rand.NewSource(seed))
		_, v := fresh(t, 10, 1+int(seed)%12)
		for range 30 {
			trouble(t, source, v, 0)
		}
		answers(t, api.OK, v.Sync(nil)) // nothing is on the way
		room := int(seed) % 12
		s := take(t, v, small, 1, room)
		least := v.Last()
		var want [][]byte
		for b := range 8 {
			now, e := v.Read(b)
			answers(t, api.OK, e)
			want = append(want, now)
		}
		for range 100 {
			images(t, s, want)
			trouble(t, source, v, least)
			if s.Broken() {
				imageFails(t, s, api.ErrState)
				has(t, s, room, true)
				break
			}
		}
		if room >= 10 && s.Broken() {
			t.Fatal("broken, with room for all blocks")
		}
		answers(t, api.OK, s.Drop())
		imageFails(t, s, api.ErrGone)
	}
}

func TestP10_5AnotherOneBehindDrop(t *testing.T) {
	_, v := fresh(t, 8, 3)
	for gen := 1; gen <= 5; gen++ {
		s := take(t, v, small, gen, gen%2)
		refuses(t, api.ErrState, v, small, gen+1, 1)
		has(t, s, 0, false)
		if gen > 1 {
			reads(t, s, 4, with(4, byte(gen-1)))
		}
		change(t, v, 4, byte(gen))
		has(t, s, gen%2, gen%2 == 0) // without room it is broken, and may be dropped
		answers(t, api.OK, s.Drop())
	}
	old := take(t, v, small, 6, 8)
	answers(t, api.OK, old.Drop())
	s := take(t, v, small, 7, 8)
	answers(t, api.ErrGone, old.Drop()) // one that was dropped drops no other
	readFails(t, old, 4, api.ErrGone)
	has(t, old, 0, false)
	change(t, v, 4, 99)
	has(t, old, 0, false)
	has(t, s, 1, false)
	reads(t, s, 4, with(4, 5))
}
