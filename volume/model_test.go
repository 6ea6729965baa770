package volume

import (
	"bytes"
	"maps"
	"math/rand"
	"slices"
	"testing"

	"bollard/api"
	"bollard/disk"
)

// change of the model: a patch, with all that it needs, overlapped ones too.
type changed struct {
	block, off int
	bytes      []byte
	needs      []int
	done       bool
}

type onWay struct {
	block int
	bytes []byte
	ids   []int
}

// model is a volume, said again as plainly as can be. Patch n stands at n - 1;
// held are the blocks with buffers, the one that was used longest ago first.
type model struct {
	disk   [][]byte
	fails  []int
	bound  int
	held   []int
	all    []changed
	queue  []onWay
	frozen bool
	broken bool
	room   int
	kept   map[int][]byte
}

func (m *model) lacks(b int) bool {
	return b < 0 || b >= len(m.disk)
}

// get is how a block is come by: from a buffer, or by a read that may fail.
func (m *model) get(b int) api.Errno {
	if at := slices.Index(m.held, b); at >= 0 {
		m.held = append(slices.Delete(m.held, at, at+1), b)
		return api.OK
	}
	if m.fails[b] > 0 {
		m.fails[b]--
		return api.ErrIO
	}
	if len(m.held) == m.bound {
		m.held = m.held[1:]
	}
	m.held = append(m.held, b)
	return api.OK
}

func (m *model) pending(b int) []int {
	var ids []int
	for i, c := range m.all {
		if c.block == b && !c.done {
			ids = append(ids, i+1)
		}
	}
	return ids
}

func (m *model) dirty() []int {
	var blocks []int
	for b := range m.disk {
		if len(m.pending(b)) > 0 {
			blocks = append(blocks, b)
		}
	}
	return blocks
}

// laid is a block of the disk with some patches over it.
func (m *model) laid(b int, ids []int) []byte {
	out := slices.Clone(m.disk[b])
	for _, id := range ids {
		copy(out[m.all[id-1].off:], m.all[id-1].bytes)
	}
	return out
}

// writable takes patches out that need what is neither done nor among them,
// until there are none of these.
func (m *model) writable(b int) []int {
	ids := m.pending(b)
	for {
		left := slices.DeleteFunc(slices.Clone(ids), func(id int) bool {
			return slices.ContainsFunc(m.all[id-1].needs, func(need int) bool {
				return !m.all[need-1].done && !slices.Contains(ids, need)
			})
		})
		if len(left) == len(ids) {
			return ids
		}
		ids = left
	}
}

func (m *model) isOnWay(b int) bool {
	return slices.ContainsFunc(m.queue, func(w onWay) bool { return w.block == b })
}

func (m *model) ready() []int {
	return slices.DeleteFunc(m.dirty(), func(b int) bool { return m.isOnWay(b) || len(m.writable(b)) == 0 })
}

func (m *model) read(b int) ([]byte, api.Errno) {
	if m.lacks(b) {
		return nil, api.ErrBlock
	}
	if e := m.get(b); e != api.OK {
		return nil, e
	}
	return m.laid(b, m.pending(b)), api.OK
}

func (m *model) change(b, off int, put []byte, needs []int) (int, api.Errno) {
	if m.lacks(b) {
		return 0, api.ErrBlock
	}
	toKeep := m.frozen && !m.broken && m.kept[b] == nil
	var was []byte
	if toKeep {
		var e api.Errno
		if was, e = m.read(b); e != api.OK {
			return 0, e
		}
	}
	if off < 0 || len(put) == 0 || off+len(put) > api.Size {
		return 0, api.ErrArg
	}
	for _, need := range needs {
		if need < 1 || need > len(m.all) {
			return 0, api.ErrPatch
		}
	}
	c := changed{block: b, off: off, bytes: slices.Clone(put), needs: slices.Clone(needs)}
	for _, id := range m.pending(b) {
		under := m.all[id-1]
		if under.off < off+len(put) && off < under.off+len(under.bytes) {
			c.needs = append(c.needs, id)
		}
	}
	m.all = append(m.all, c)
	if toKeep && len(m.kept) < m.room {
		m.kept[b] = was
	} else if toKeep {
		m.broken = true
	}
	return len(m.all), api.OK
}

func (m *model) undo(last int) api.Errno {
	if last < 0 || last > len(m.all) {
		return api.ErrArg
	}
	for _, c := range m.all[last:] {
		if c.done {
			return api.ErrState
		}
	}
	m.all = m.all[:last]
	for i, w := range m.queue {
		m.queue[i].ids = slices.DeleteFunc(w.ids, func(id int) bool { return id > last })
	}
	return api.OK
}

func (m *model) write(b int) api.Errno {
	if m.lacks(b) {
		return api.ErrBlock
	}
	if m.isOnWay(b) {
		return api.ErrState
	}
	ids := m.writable(b)
	if len(ids) == 0 {
		return api.ErrNone
	}
	if e := m.get(b); e != api.OK {
		return e
	}
	if len(m.queue) == api.MaxQueue {
		return api.ErrState
	}
	m.queue = append(m.queue, onWay{block: b, bytes: m.laid(b, ids), ids: ids})
	return api.OK
}

func (m *model) complete(k int, ok bool) api.Errno {
	if k < 0 || k >= len(m.queue) {
		return api.ErrArg
	}
	w := m.queue[k]
	m.queue = slices.Delete(m.queue, k, k+1)
	if !ok {
		return api.ErrIO
	}
	m.disk[w.block] = w.bytes
	for _, id := range w.ids {
		m.all[id-1].done = true
	}
	return api.OK
}

// closure goes through needs again and again, until nothing comes in any more.
func (m *model) closure(ids []int) map[int]struct{} {
	in := map[int]struct{}{}
	for _, id := range ids {
		if !m.all[id-1].done {
			in[id] = struct{}{}
		}
	}
	for was := -1; was != len(in); {
		was = len(in)
		for _, id := range slices.Collect(maps.Keys(in)) {
			for _, need := range m.all[id-1].needs {
				if !m.all[need-1].done {
					in[need] = struct{}{}
				}
			}
		}
	}
	return in
}

func (m *model) sync(ids []int) api.Errno {
	for _, id := range ids {
		if id < 1 || id > len(m.all) {
			return api.ErrPatch
		}
	}
	for len(m.queue) > 0 {
		m.complete(0, true)
	}
	for len(m.closure(ids)) > 0 {
		closure, failed := m.closure(ids), false
		for _, b := range m.ready() {
			wanted := slices.ContainsFunc(m.pending(b), func(id int) bool {
				_, in := closure[id]
				return in
			})
			if wanted && len(m.queue) < api.MaxQueue && m.write(b) != api.OK {
				failed = true
			}
		}
		for len(m.queue) > 0 {
			m.complete(0, true)
		}
		if failed {
			return api.ErrIO
		}
	}
	return api.OK
}

func (m *model) freeze(room int) api.Errno {
	if m.frozen {
		return api.ErrState
	}
	if room < 0 || room > 65536 {
		return api.ErrArg
	}
	m.frozen, m.broken, m.room, m.kept = true, false, room, map[int][]byte{}
	return api.OK
}

func (m *model) thaw() api.Errno {
	if !m.frozen {
		return api.ErrState
	}
	m.frozen, m.broken, m.kept = false, false, nil
	return api.OK
}

func (m *model) old(b int) ([]byte, api.Errno) {
	if !m.frozen || m.broken {
		return nil, api.ErrState
	}
	now, e := m.read(b)
	if e == api.OK && m.kept[b] != nil {
		return m.kept[b], e
	}
	return now, e
}

// agree fails unless the volume, and its disk, are what the model is.
func agree(t *testing.T, d *disk.Disk, v *Volume, m *model) {
	t.Helper()
	same(t, "dirty", v.Dirty(), m.dirty()...)
	same(t, "ready", v.Ready(), m.ready()...)
	var way []int
	queue := d.Queue()
	for i, w := range m.queue {
		way = append(way, w.block)
		if i < len(queue) && !bytes.Equal(queue[i].Bytes, w.bytes) {
			t.Fatalf("block %d was sent with %x, want %x", w.block, queue[i].Bytes, w.bytes)
		}
	}
	same(t, "way", v.Way(), way...)
	if v.Last() != len(m.all) || v.Kept() != len(m.kept) || v.Broken() != m.broken {
		t.Fatalf("last %d, kept %d, broken %t; want %d, %d, %t", v.Last(), v.Kept(), v.Broken(), len(m.all), len(m.kept), m.broken)
	}
	for b := range m.disk {
		same(t, "pending", v.Pending(b), m.pending(b)...)
	}
	for i, c := range m.all {
		if v.IsDone(i+1) != c.done {
			t.Fatalf("patch %d is done: %t", i+1, !c.done)
		}
	}
	for b, has := range d.Image() {
		if !bytes.Equal(has, m.disk[b]) {
			t.Fatalf("block %d on the disk: %x, want %x", b, has, m.disk[b])
		}
	}
}

// step does one call on both, and fails unless they answer alike.
func step(t *testing.T, source *rand.Rand, d *disk.Disk, v *Volume, m *model) {
	t.Helper()
	b, last := source.Intn(len(m.disk)+2)-1, len(m.all)
	switch kind := source.Intn(100); {
	case kind < 34:
		put := make([]byte, source.Intn(4))
		source.Read(put)
		off := source.Intn(8) - 1
		if source.Intn(8) == 0 {
			off = api.Size - source.Intn(4)
		}
		var needs []int
		for range source.Intn(3) {
			needs = append(needs, max(last-source.Intn(6), 1-source.Intn(20)/19))
		}
		id, e := v.Change(b, off, put, needs)
		want, wantE := m.change(b, off, put, needs)
		answers(t, wantE, e)
		if id != want {
			t.Fatalf("Change: %d, want %d", id, want)
		}
	case kind < 38:
		back := last - source.Intn(4)
		answers(t, m.undo(back), v.Undo(back))
	case kind < 55:
		answers(t, m.write(b), v.Write(b))
	case kind < 70:
		k, ok := source.Intn(len(m.queue)+2)-1, source.Intn(5) > 0
		answers(t, m.complete(k, ok), v.Complete(k, ok))
	case kind < 78:
		alike(t, v.Read, m.read, b)
	case kind < 86:
		alike(t, v.Old, m.old, b)
	case kind < 89:
		room := source.Intn(len(m.disk)+3) - 1
		answers(t, m.freeze(room), v.Freeze(room))
	case kind < 91:
		answers(t, m.thaw(), v.Thaw())
	case kind < 94:
		var ids []int
		for range source.Intn(4) {
			ids = append(ids, last-source.Intn(9))
		}
		answers(t, m.sync(ids), v.Sync(ids))
	case kind < 95: // the whole of it
		var ids []int
		for id := range last {
			ids = append(ids, id+1)
		}
		answers(t, m.sync(ids), v.Sync(ids))
	case !m.lacks(b):
		m.fails[b] = source.Intn(3)
		d.Fail(b, m.fails[b])
	}
}

func alike(t *testing.T, call, want func(b int) ([]byte, api.Errno), b int) {
	t.Helper()
	got, e := call(b)
	wanted, wantE := want(b)
	answers(t, wantE, e)
	if !bytes.Equal(got, wanted) {
		t.Fatalf("block %d: %x, want %x", b, got, wanted)
	}
}

func TestP9_7AsTheModelTells(t *testing.T) {
	for seed := range int64(120) {
		source := rand.New(rand.NewSource(seed))
		blocks, buffers, steps := 1+source.Intn(6), 1+source.Intn(4), 300
		if seed%20 == 0 { // more than the queue takes
			blocks, buffers = api.MaxQueue+10, 30
			steps = 700
		}
		d, v := fresh(t, blocks, buffers)
		m := &model{disk: d.Image(), fails: make([]int, blocks), bound: buffers}
		for range steps {
			step(t, source, d, v, m)
			agree(t, d, v, m)
		}
	}
}
