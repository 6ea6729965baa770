package patch

import (
	"bytes"
	"math/rand"
	"slices"
	"testing"

	"bollard/api"
)

// model is a set of patches, said again as plainly as can be: all patches that
// were added and not taken back, each with all its needs, in order.
type model struct {
	list []api.Patch
	done []bool
}

func (m *model) has(id int) bool { return id >= 1 && id <= len(m.list) }

func (m *model) pending(id int) bool { return m.has(id) && !m.done[id-1] }

func (m *model) all() []int {
	var ids []int
	for _, p := range m.list {
		if m.pending(p.ID) {
			ids = append(ids, p.ID)
		}
	}
	return ids
}

func (m *model) of(block int) []int {
	var ids []int
	for _, id := range m.all() {
		if m.list[id-1].Block == block {
			ids = append(ids, id)
		}
	}
	return ids
}

func (m *model) blocks() []int {
	var out []int
	for _, id := range m.all() {
		out = append(out, m.list[id-1].Block)
	}
	slices.Sort(out)
	return slices.Compact(out)
}

// needs are a patch's needs that are pending now.
func (m *model) needs(id int) []int {
	var out []int
	for _, need := range m.list[id-1].Needs {
		if m.pending(need) {
			out = append(out, need)
		}
	}
	return out
}

// common tells whether two patches have a byte's place in common.
func common(p, q api.Patch) bool {
	for i := range api.Size {
		if p.Block == q.Block && i >= p.Off && i < p.Off+len(p.Bytes) && i >= q.Off && i < q.Off+len(q.Bytes) {
			return true
		}
	}
	return false
}

func (m *model) add(block, off int, b []byte, needs []int) (int, api.Errno) {
	if block < 0 || off < 0 || len(b) == 0 || off >= api.Size || len(b) > api.Size || off+len(b) > api.Size {
		return 0, api.ErrArg
	}
	p := api.Patch{ID: len(m.list) + 1, Block: block, Off: off, Bytes: bytes.Clone(b)}
	for _, id := range needs {
		if !m.has(id) {
			return 0, api.ErrPatch
		}
	}
	for _, id := range m.all() {
		if slices.Contains(needs, id) || common(p, m.list[id-1]) {
			p.Needs = append(p.Needs, id)
		}
	}
	m.list, m.done = append(m.list, p), append(m.done, false)
	return p.ID, api.OK
}

// over is a block's bytes with some patches over them.
func (m *model) over(disk []byte, ids []int) []byte {
	out := bytes.Clone(disk)
	for _, id := range ids {
		p := m.list[id-1]
		for i, x := range p.Bytes {
			out[p.Off+i] = x
		}
	}
	return out
}

// plan is the greatest set: from all patches of the block those go that can't
// stay, until all can.
func (m *model) plan(block int) []int {
	ids := m.of(block)
	for {
		at := slices.IndexFunc(ids, func(id int) bool {
			return slices.ContainsFunc(m.needs(id), func(need int) bool { return !slices.Contains(ids, need) })
		})
		if at < 0 {
			return ids
		}
		ids = slices.Delete(ids, at, at+1)
	}
}

func (m *model) closure(ids []int) []int {
	var out []int
	for _, id := range ids {
		if m.pending(id) {
			out = append(out, id)
		}
	}
	for many := -1; many != len(out); {
		many = len(out)
		for _, id := range out {
			out = append(out, m.needs(id)...)
		}
		slices.Sort(out)
		out = slices.Compact(out)
	}
	return out
}

func (m *model) finish(ids []int) api.Errno {
	for _, id := range ids {
		if !m.has(id) {
			return api.ErrPatch
		}
	}
	for _, id := range ids {
		if !m.pending(id) {
			continue
		}
		for _, need := range m.needs(id) {
			if !slices.Contains(ids, need) {
				return api.ErrState
			}
		}
	}
	for _, id := range ids {
		m.done[id-1] = true
	}
	return api.OK
}

func (m *model) undo(last int) api.Errno {
	if last < 0 || last > len(m.list) {
		return api.ErrArg
	}
	if slices.Contains(m.done[last:], true) {
		return api.ErrState
	}
	m.list, m.done = m.list[:last:last], m.done[:last:last]
	return api.OK
}

// agree fails unless the set tells in every call what the model does.
func agree(t *testing.T, s *Set, m *model) {
	t.Helper()
	if s.Last() != len(m.list) || !slices.Equal(s.Blocks(), m.blocks()) {
		t.Fatalf("last %d, blocks %v; want %d, %v", s.Last(), s.Blocks(), len(m.list), m.blocks())
	}
	for block := -1; block < 6; block++ {
		agreeOn(t, s, m, block)
	}
	for id := -1; id <= len(m.list)+2; id++ {
		if s.IsDone(id) != (m.has(id) && !m.pending(id)) {
			t.Fatalf("IsDone(%d): %v", id, s.IsDone(id))
		}
		got, e := s.Get(id)
		if !m.pending(id) {
			answers(t, api.ErrPatch, e)
			isZero(t, got)
			continue
		}
		answers(t, api.OK, e)
		want := m.list[id-1]
		want.Needs = m.needs(id)
		samePatch(t, got, want)
	}
}

func agreeOn(t *testing.T, s *Set, m *model, block int) {
	t.Helper()
	if got, want := s.Of(block), m.of(block); !slices.Equal(got, want) {
		t.Fatalf("Of(%d): %v, want %v", block, got, want)
	}
	disk := full(0xee)
	now, e := s.Now(block, disk)
	answers(t, api.OK, e)
	if !bytes.Equal(now, m.over(disk, m.of(block))) {
		t.Fatalf("Now(%d): %x", block, now)
	}
	got, ids, e := s.Plan(block, disk)
	want := m.plan(block)
	if len(want) == 0 {
		answers(t, api.ErrNone, e)
		if len(got) != 0 || len(ids) != 0 {
			t.Fatalf("Plan(%d): %x, %v", block, got, ids)
		}
		return
	}
	answers(t, api.OK, e)
	if !slices.Equal(ids, want) || !bytes.Equal(got, m.over(disk, want)) {
		t.Fatalf("Plan(%d): %x, %v; want %v", block, got, ids, want)
	}
}

// some are numbers of patches, at times such as are not known.
func some(source *rand.Rand, last int) []int {
	ids := make([]int, source.Intn(5))
	for i := range ids {
		ids[i] = 1 + source.Intn(last+1)
		if ids[i] > last && source.Intn(4) > 0 {
			ids[i] = 1
		}
		if source.Intn(60) == 0 {
			ids[i] = -source.Intn(2)
		}
	}
	return ids
}

// step does one call on both, and fails unless they answer alike.
func step(t *testing.T, source *rand.Rand, s *Set, m *model) {
	t.Helper()
	last := len(m.list)
	switch kind := source.Intn(100); {
	case kind < 60:
		block, off, needs := source.Intn(5), source.Intn(12), some(source, last)
		b := make([]byte, 1+source.Intn(5))
		source.Read(b)
		switch source.Intn(20) {
		case 0:
			off = api.Size - source.Intn(6)
		case 1:
			block, off = source.Intn(3)-1, source.Intn(3)-1
		}
		id, e := s.Add(block, off, b, needs)
		want, why := m.add(block, off, b, needs)
		answers(t, why, e)
		if id != want {
			t.Fatalf("Add: %d, want %d", id, want)
		}
	case kind < 75:
		_, ids, _ := s.Plan(source.Intn(5), full(0))
		if len(ids) > 0 && source.Intn(2) == 0 { // not all of them: perhaps too few
			ids = slices.Delete(ids, 0, source.Intn(len(ids)))
		}
		answers(t, m.finish(ids), s.Done(ids))
	case kind < 82:
		ids := some(source, last)
		answers(t, m.finish(ids), s.Done(ids))
	case kind < 88:
		ids := m.closure(some(source, last))
		answers(t, m.finish(ids), s.Done(ids))
	case kind < 92:
		undo := last + 1 - source.Intn(6)
		answers(t, m.undo(undo), s.Undo(undo))
	default:
		ids := some(source, last)
		if got, want := s.Closure(ids), m.closure(ids); !slices.Equal(got, want) {
			t.Fatalf("Closure(%v): %v, want %v", ids, got, want)
		}
	}
	agree(t, s, m)
}

func TestP7_1AsTheModelTells(t *testing.T) {
	for seed := range int64(50) {
		source := rand.New(rand.NewSource(seed))
		s, m := New(), &model{}
		for range 120 {
			step(t, source, s, m)
		}
	}
}
