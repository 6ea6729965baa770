package cache

import (
	"bytes"
	"math/rand"
	"slices"
	"testing"

	"bollard/api"
	"bollard/disk"
)

// slot is a buffer of the model: a block, one number for all its bytes, pins.
type slot struct{ block, has, pins int }

// model is a cache over few blocks, said again as plainly as can be: its slots
// stand in order of their use, the oldest first.
type model struct {
	disk, fails  []int
	bound        int
	slots        []slot
	hits, misses int
}

func (m *model) lacks(b int) bool {
	return b < 0 || b >= len(m.disk)
}

func (m *model) place(b int) int {
	return slices.IndexFunc(m.slots, func(s slot) bool { return s.block == b })
}

// get is what Get tells; with OK the block's slot stands last behind it.
func (m *model) get(b int) (int, api.Errno) {
	if m.lacks(b) {
		return 0, api.ErrArg
	}
	if at := m.place(b); at >= 0 {
		m.hits++
		s := m.slots[at]
		m.slots = append(slices.Delete(m.slots, at, at+1), s)
		return s.has, api.OK
	}
	m.misses++
	goes := slices.IndexFunc(m.slots, func(s slot) bool { return s.pins == 0 })
	if len(m.slots) == m.bound && goes < 0 {
		return 0, api.ErrPinned
	}
	if m.fails[b] > 0 {
		m.fails[b]--
		return 0, api.ErrIO
	}
	if len(m.slots) == m.bound {
		m.slots = slices.Delete(m.slots, goes, goes+1)
	}
	m.slots = append(m.slots, slot{block: b, has: m.disk[b]})
	return m.disk[b], api.OK
}

func (m *model) put(b, x int) api.Errno {
	if m.lacks(b) {
		return api.ErrArg
	}
	if at := m.place(b); at >= 0 {
		m.slots[at].has = x
	}
	return api.OK
}

func (m *model) drop(b int) api.Errno {
	if m.lacks(b) {
		return api.ErrArg
	}
	at := m.place(b)
	if at < 0 {
		return api.OK
	}
	if m.slots[at].pins > 0 {
		return api.ErrState
	}
	m.slots = slices.Delete(m.slots, at, at+1)
	return api.OK
}

func (m *model) pin(b int) api.Errno {
	if _, e := m.get(b); e != api.OK {
		return e
	}
	last := &m.slots[len(m.slots)-1]
	if last.pins == api.MaxPins {
		return api.ErrState
	}
	last.pins++
	return api.OK
}

func (m *model) unpin(b int) api.Errno {
	if m.lacks(b) {
		return api.ErrArg
	}
	at := m.place(b)
	if at < 0 || m.slots[at].pins == 0 {
		return api.ErrState
	}
	m.slots[at].pins--
	return api.OK
}

// agree fails unless the cache holds what the model does, and no more than it
// may.
func agree(t *testing.T, c *Cache, m *model) {
	t.Helper()
	var want []int
	for _, s := range m.slots {
		want = append(want, s.block)
	}
	holds(t, c, want...)
	counts(t, c, m.hits, m.misses)
	if len(want) > m.bound {
		t.Fatalf("%d are held", len(want))
	}
}

// step does one call on both, and fails unless they answer alike.
func step(t *testing.T, source *rand.Rand, d *disk.Disk, c *Cache, m *model) {
	t.Helper()
	b, x := source.Intn(len(m.disk)+2)-1, source.Intn(256)
	switch kind := source.Intn(100); {
	case kind < 40:
		got, e := c.Get(b)
		has, want := m.get(b)
		answers(t, want, e)
		if e == api.OK && !bytes.Equal(got, full(byte(has))) || e != api.OK && len(got) != 0 {
			t.Fatalf("Get(%d): %x, want all %x", b, got, has)
		}
	case kind < 50:
		answers(t, m.put(b, x), c.Put(b, full(byte(x))))
	case kind < 60:
		answers(t, m.drop(b), c.Drop(b))
	case kind < 72:
		answers(t, m.pin(b), c.Pin(b))
	case kind < 74: // up to the bound of pins, and past it
		for range api.MaxPins + 1 {
			answers(t, m.pin(b), c.Pin(b))
		}
	case kind < 88:
		answers(t, m.unpin(b), c.Unpin(b))
	case kind < 92:
		for m.place(b) >= 0 && m.slots[m.place(b)].pins > 0 {
			answers(t, m.unpin(b), c.Unpin(b))
		}
	case kind < 96 && !m.lacks(b):
		m.disk[b] = x
		turn(t, d, b, byte(x))
	case !m.lacks(b):
		m.fails[b] = source.Intn(3)
		d.Fail(b, m.fails[b])
	}
	agree(t, c, m)
}

func TestP6_7AsTheModelTells(t *testing.T) {
	for seed := range int64(60) {
		source := rand.New(rand.NewSource(seed))
		blocks, bound := 1+source.Intn(12), 1+source.Intn(7)
		d, c := fresh(t, blocks, bound)
		m := &model{disk: make([]int, blocks), fails: make([]int, blocks), bound: bound}
		for b := range m.disk {
			m.disk[b] = b
		}
		for range 500 {
			step(t, source, d, c, m)
		}
	}
}
