package patch

import (
	"slices"

	"bollard/api"
)

// numbers is a set of patches' numbers.
type numbers map[int]struct{}

func (n numbers) add(ids ...int) {
	for _, id := range ids {
		n[id] = struct{}{}
	}
}

func (n numbers) has(id int) bool {
	_, in := n[id]
	return in
}

func (s *Set) made() bool {
	return s != nil && s.pending != nil
}

// refusal is what every call that is handed a block's bytes asks first.
func (s *Set) refusal(disk []byte) api.Errno {
	switch {
	case !s.made():
		return api.ErrNil
	case len(disk) != api.Size:
		return api.ErrArg
	}
	return api.OK
}

// has tells whether there is, or was, a patch of that number.
func (s *Set) has(id int) bool {
	return id >= 1 && id <= s.last
}

func (s *Set) known(ids []int) bool {
	for _, id := range ids {
		if !s.has(id) {
			return false
		}
	}
	return true
}

func (s *Set) isPending(id int) bool {
	_, pending := s.pending[id]
	return pending
}

// stillPending is a new list of those that are pending.
func (s *Set) stillPending(ids []int) []int {
	var out []int
	for _, id := range ids {
		if s.isPending(id) {
			out = append(out, id)
		}
	}
	return out
}

// each goes through a block's pending patches, by their numbers rising.
func (s *Set) each(block int, visit func(p api.Patch)) {
	for _, id := range s.blocks[block] {
		visit(s.pending[id])
	}
}

// eachBack goes through them the other way round, until visit tells false.
func (s *Set) eachBack(block int, visit func(p api.Patch) bool) {
	for _, id := range slices.Backward(s.blocks[block]) {
		if !visit(s.pending[id]) {
			return
		}
	}
}

// uppermost is, for each byte's place of a new patch, the latest pending patch
// that has it, if there is one. These alone are kept as needs, since whatever
// lies below them they need themselves: if each patch kept all that it
// overlaps, many patches of one place would fill the memory.
func (s *Set) uppermost(p api.Patch) []int {
	var ids []int
	var covered [api.Size]bool
	bare := len(p.Bytes)
	s.eachBack(p.Block, func(under api.Patch) bool {
		was := bare
		for i := max(p.Off, under.Off); i < min(end(p), end(under)); i++ {
			if !covered[i] {
				covered[i] = true
				bare--
			}
		}
		if bare < was {
			ids = append(ids, under.ID)
		}
		return bare > 0
	})
	return ids
}

// allNeeds is a pending patch's needs as they are told: with all that it
// overlaps, not just the uppermost.
func (s *Set) allNeeds(p api.Patch) []int {
	needs := s.stillPending(p.Needs)
	s.each(p.Block, func(q api.Patch) {
		if q.ID < p.ID && p.Off < end(q) && q.Off < end(p) {
			needs = append(needs, q.ID)
		}
	})
	return rising(needs)
}

// lacks tells whether a patch needs one that is neither done nor chosen. Of
// what it overlaps it asks for the uppermost alone: with one of these there is
// always all that lies below it, done or chosen.
func (s *Set) lacks(p api.Patch, chosen numbers) bool {
	return slices.ContainsFunc(p.Needs, func(id int) bool {
		return s.isPending(id) && !chosen.has(id)
	})
}

// remove takes patches out of those that are pending. It goes through each
// block's list just once, however many of its patches go.
func (s *Set) remove(ids []int) {
	touched := numbers{}
	for _, id := range s.stillPending(ids) {
		touched.add(s.pending[id].Block)
	}
	for _, id := range ids {
		delete(s.pending, id)
	}
	for block := range touched {
		if left := s.stillPending(s.blocks[block]); len(left) > 0 {
			s.blocks[block] = left
		} else {
			delete(s.blocks, block)
		}
	}
}

// end is the place behind a patch's last byte.
func end(p api.Patch) int {
	return p.Off + len(p.Bytes)
}

func lay(block []byte, p api.Patch) {
	copy(block[p.Off:], p.Bytes)
}

// rising sorts a list in place, each number once.
func rising(ids []int) []int {
	slices.Sort(ids)
	return slices.Compact(ids)
}
