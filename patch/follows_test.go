package patch

import (
	"bytes"
	"math/rand"
	"reflect"
	"slices"
	"testing"

	"bollard/api"
)

// random adds so many patches, that overlap and need each other at random, over
// few blocks, and has some of them done between.
func random(t *testing.T, source *rand.Rand, s *Set, many int) {
	t.Helper()
	for range many {
		b := make([]byte, 1+source.Intn(6))
		source.Read(b)
		var needs []int
		for range source.Intn(4) {
			if s.Last() > 0 {
				needs = append(needs, 1+source.Intn(s.Last()))
			}
		}
		if _, e := s.Add(source.Intn(6), source.Intn(20), b, needs); e != api.OK {
			t.Fatal(e)
		}
		if source.Intn(8) == 0 {
			_, ids, _ := s.Plan(source.Intn(6), full(0))
			done(t, s, ids...)
		}
	}
}

// pending is the numbers of all pending patches, rising.
func pending(s *Set) []int {
	var ids []int
	for _, block := range s.Blocks() {
		ids = append(ids, s.Of(block)...)
	}
	slices.Sort(ids)
	return ids
}

// sets does something with many sets.
func sets(t *testing.T, do func(source *rand.Rand, s *Set)) {
	t.Helper()
	for seed := range int64(200) {
		source := rand.New(rand.NewSource(seed))
		s := New()
		random(t, source, s, source.Intn(60))
		do(source, s)
	}
}

func TestP7_6ItGetsOn(t *testing.T) {
	sets(t, func(_ *rand.Rand, s *Set) {
		for ids := pending(s); len(ids) > 0; ids = pending(s) {
			p, _ := s.Get(ids[0])
			_, chosen, e := s.Plan(p.Block, full(0))
			if e != api.OK || !slices.Contains(chosen, ids[0]) {
				t.Fatalf("Plan(%d): %v, %v; %d is the lowest", p.Block, chosen, e, ids[0])
			}
			done(t, s, ids[0])
		}
	})
}

func TestP7_7NoRings(t *testing.T) {
	sets(t, func(_ *rand.Rand, s *Set) {
		for _, id := range pending(s) {
			p, _ := s.Get(id)
			for _, need := range p.Needs {
				if need >= id || need < 1 || s.IsDone(need) {
					t.Fatalf("%d needs %d", id, need)
				}
			}
			if slices.Contains(s.Closure(p.Needs), id) {
				t.Fatalf("%d needs itself in the end", id)
			}
			if got, want := s.Closure([]int{id}), append(s.Closure(p.Needs), id); !slices.Equal(got, want) {
				t.Fatalf("Closure(%d): %v, want %v", id, got, want)
			}
		}
	})
}

func TestP7_8Whole(t *testing.T) {
	sets(t, func(_ *rand.Rand, s *Set) {
		for _, block := range s.Blocks() {
			_, ids, e := s.Plan(block, full(0))
			if e == api.ErrNone {
				continue
			}
			for _, id := range ids {
				p, _ := s.Get(id)
				for _, need := range p.Needs {
					if !slices.Contains(ids, need) {
						t.Fatalf("%v has %d, and not %d", ids, id, need)
					}
				}
			}
			if !slices.Equal(s.Closure(ids), ids) {
				t.Fatalf("%v needs %v in the end", ids, s.Closure(ids))
			}
		}
	})
}

// A block that tells nothing does not count as a plan: nothing of it is put on
// the disk.
func TestP7_9InTheEnd(t *testing.T) {
	sets(t, func(source *rand.Rand, s *Set) {
		disk, now := map[int][]byte{}, map[int][]byte{}
		for block := range 6 {
			disk[block] = full(byte(200 + block))
			now[block], _ = s.Now(block, disk[block])
		}
		plans := len(pending(s))
		for len(s.Blocks()) > 0 {
			wrote := false
			blocks := s.Blocks()
			source.Shuffle(len(blocks), func(i, j int) { blocks[i], blocks[j] = blocks[j], blocks[i] })
			for _, block := range blocks {
				got, ids, e := s.Plan(block, disk[block])
				if e != api.OK {
					continue
				}
				disk[block], wrote = got, true
				done(t, s, ids...)
				plans--
				if is, _ := s.Now(block, disk[block]); !bytes.Equal(is, now[block]) {
					t.Fatalf("block %d is another now", block)
				}
			}
			if !wrote || plans < 0 {
				t.Fatalf("%v are left", pending(s))
			}
		}
		if !reflect.DeepEqual(disk, now) {
			t.Fatal("the disk is not what it was now")
		}
	})
}

func TestP7_10TakenBack(t *testing.T) {
	for seed := range int64(200) {
		s, other := New(), New()
		for _, x := range []*Set{s, other} {
			random(t, rand.New(rand.NewSource(seed)), x, int(seed)%50)
		}
		source := rand.New(rand.NewSource(seed))
		was, last := tell(s), s.Last()
		for range source.Intn(20) {
			b := make([]byte, 1+source.Intn(9))
			if _, e := s.Add(source.Intn(9), source.Intn(30), b, pending(s)); e != api.OK {
				t.Fatal(e)
			}
		}
		answers(t, api.OK, s.Undo(last))
		if !reflect.DeepEqual(tell(s), was) {
			t.Fatal("not all is as it was")
		}
		for _, x := range []*Set{s, other} { // and what comes behind is the same
			random(t, rand.New(rand.NewSource(-1-seed)), x, 20)
		}
		if !reflect.DeepEqual(tell(s), tell(other)) {
			t.Fatal("it goes on otherwise than one that took nothing back")
		}
	}
}

// Many patches of one place, and long chains of needs, are gone through in good
// time and little memory.
func TestMany(t *testing.T) {
	const many = 30000
	s, chain := New(), New()
	var ahead []int
	for id := 1; id <= many; id++ {
		add(t, s, id, 5, 7, 3, byte(id))
		add(t, chain, id, id, 0, 1, byte(id), ahead...)
		ahead = []int{id}
	}
	if p, e := s.Get(many); e != api.OK || len(p.Needs) != many-1 {
		t.Fatal(len(p.Needs), e)
	}
	for _, x := range []*Set{s, chain} {
		if got := x.Closure([]int{many}); len(got) != many || got[0] != 1 {
			t.Fatal(len(got))
		}
		answers(t, api.ErrState, x.Done([]int{many}))
	}
	_, ids, e := s.Plan(5, full(0))
	if e != api.OK || len(ids) != many {
		t.Fatal(len(ids), e)
	}
	done(t, s, ids...)
	answers(t, api.OK, chain.Undo(0))
	if len(s.Blocks()) != 0 || len(chain.Blocks()) != 0 || s.Last() != many || chain.Last() != 0 {
		t.Fatal("something is left")
	}
}
