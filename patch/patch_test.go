package patch

import (
	"bytes"
	"math"
	"reflect"
	"slices"
	"testing"

	"bollard/api"
)

// full is a block whose bytes are all x.
func full(x byte) []byte {
	return bytes.Repeat([]byte{x}, api.Size)
}

func answers(t *testing.T, want, got api.Errno) {
	t.Helper()
	if got != want {
		t.Fatalf("%v, want %v", got, want)
	}
}

// add adds a patch of so many bytes x, and fails unless it has that number.
func add(t *testing.T, s *Set, id, block, off, many int, x byte, needs ...int) {
	t.Helper()
	if got, e := s.Add(block, off, bytes.Repeat([]byte{x}, many), needs); got != id || e != api.OK {
		t.Fatalf("Add(%d, %d): %d, %v; want %d", block, off, got, e, id)
	}
}

func done(t *testing.T, s *Set, ids ...int) {
	t.Helper()
	if e := s.Done(ids); e != api.OK {
		t.Fatalf("Done(%v): %v", ids, e)
	}
}

func isZero(t *testing.T, p api.Patch) {
	t.Helper()
	if p.ID != 0 || p.Block != 0 || p.Off != 0 || len(p.Bytes) != 0 || len(p.Needs) != 0 {
		t.Fatalf("%v is not the zero patch", p)
	}
}

func samePatch(t *testing.T, got, want api.Patch) {
	t.Helper()
	if got.ID != want.ID || got.Block != want.Block || got.Off != want.Off || !bytes.Equal(got.Bytes, want.Bytes) || !slices.Equal(got.Needs, want.Needs) {
		t.Fatalf("%v, want %v", got, want)
	}
}

func needs(t *testing.T, s *Set, id int, want ...int) {
	t.Helper()
	p, e := s.Get(id)
	if e != api.OK || !slices.Equal(p.Needs, want) {
		t.Fatalf("patch %d needs %v (%v), want %v", id, p.Needs, e, want)
	}
}

func same(t *testing.T, what string, got []int, want ...int) {
	t.Helper()
	if !slices.Equal(got, want) {
		t.Fatalf("%s: %v, want %v", what, got, want)
	}
}

// plans fails unless just these patches of a block may be written, and the
// bytes are those.
func plans(t *testing.T, s *Set, block int, want []byte, ids ...int) {
	t.Helper()
	got, told, e := s.Plan(block, full(0))
	if e != api.OK || !slices.Equal(told, ids) || len(got) != api.Size || !bytes.HasPrefix(got, want) {
		t.Fatalf("Plan(%d): %x, %v, %v; want %x, %v", block, got, told, e, want, ids)
	}
}

func plansNone(t *testing.T, s *Set, block int) {
	t.Helper()
	got, ids, e := s.Plan(block, full(0))
	if len(got) != 0 || len(ids) != 0 || e != api.ErrNone {
		t.Fatalf("Plan(%d): %x, %v, %v", block, got, ids, e)
	}
}

// wrong are numbers of patches that a set with so many has not.
func wrong(last int) []int {
	return []int{math.MinInt, math.MinInt32, -1, 0, last + 1, last + 2, math.MaxInt32, math.MaxInt}
}

// told is all that a set tells.
type told struct {
	last     int
	blocks   []int
	of       [][]int
	now      [][]byte
	plans    [][]byte
	planned  [][]int
	patches  []api.Patch
	done     []bool
	closures [][]int
}

func tell(s *Set) told {
	out := told{last: s.Last(), blocks: s.Blocks()}
	for _, block := range append([]int{-1, 0, 1, 2, 3, 4, 5, 6, 7, 8, math.MaxInt}, out.blocks...) {
		now, _ := s.Now(block, full(9))
		plan, ids, _ := s.Plan(block, full(9))
		out.of, out.now = append(out.of, s.Of(block)), append(out.now, now)
		out.plans, out.planned = append(out.plans, plan), append(out.planned, ids)
	}
	for id := -1; id <= out.last+3; id++ {
		p, _ := s.Get(id)
		out.patches, out.done = append(out.patches, p), append(out.done, s.IsDone(id))
		out.closures = append(out.closures, s.Closure([]int{id}))
	}
	return out
}

// stays fails unless a call answers that number, and leaves the set as it was.
func stays(t *testing.T, s *Set, want api.Errno, call func() api.Errno) {
	t.Helper()
	was := tell(s)
	answers(t, want, call())
	if is := tell(s); !reflect.DeepEqual(is, was) {
		t.Fatalf("the call has changed the set: %v, was %v", is, was)
	}
}

// busy is a set with patches of many kinds: done are 1 and 4.
func busy(t *testing.T) *Set {
	t.Helper()
	s := New()
	add(t, s, 1, 5, 0, 2, 1)
	add(t, s, 2, 6, 0, 1, 2, 1)
	add(t, s, 3, 5, 1, 1, 3, 2)
	add(t, s, 4, 7, 10, 4, 4)
	done(t, s, 4, 1)
	add(t, s, 5, 7, 12, 4, 5, 4, 3)
	add(t, s, 6, 0, 0, api.Size, 6, 5)
	add(t, s, 7, 6, 100, 1, 7)
	return s
}

func TestP7_1New(t *testing.T) {
	s := New()
	if s == nil || s.Last() != 0 || len(s.Blocks()) != 0 || len(s.Of(0)) != 0 || len(s.Closure([]int{0, 1})) != 0 {
		t.Fatal("a new set has something")
	}
	add(t, s, 1, 0, 0, 1, 1)
	if other := New(); other.Last() != 0 || len(other.Blocks()) != 0 {
		t.Fatal("two sets are one")
	}
}

func TestP7_1AddRefuses(t *testing.T) {
	s := busy(t)
	type args struct {
		block, off int
		b          []byte
		needs      []int
	}
	list := []args{{0, 0, nil, nil}, {0, 0, []byte{}, nil}, {0, 5, make([]byte, 0, 9), nil}, {0, 128, nil, nil}}
	for _, n := range []int{math.MinInt, math.MinInt32, -1} {
		list = append(list, args{n, 0, []byte{1}, nil}, args{0, n, []byte{1}, nil}, args{n, n, nil, nil}, args{n, 0, []byte{1}, []int{99}})
	}
	for _, x := range [][2]int{{0, 129}, {1, 128}, {127, 2}, {128, 1}, {129, 1}, {64, 65}, {math.MaxInt, 1}, {math.MaxInt - 1, 128}, {math.MaxInt32, 128}, {0, 100000}} {
		list = append(list, args{0, x[0], make([]byte, x[1]), nil}, args{0, x[0], make([]byte, x[1]), []int{0}})
	}
	for _, x := range list {
		stays(t, s, api.ErrArg, func() api.Errno {
			id, e := s.Add(x.block, x.off, x.b, x.needs)
			if id != 0 {
				t.Fatal(id)
			}
			return e
		})
	}
	for _, id := range wrong(s.Last()) {
		for _, l := range [][]int{{id}, {1, id}, {id, 2}, {2, 3, id}} {
			stays(t, s, api.ErrPatch, func() api.Errno {
				id, e := s.Add(0, 0, []byte{1}, l)
				if id != 0 {
					t.Fatal(id)
				}
				return e
			})
		}
	}
	if _, e := New().Add(0, 0, []byte{1}, []int{1}); e != api.ErrPatch {
		t.Fatal("a patch that needs itself")
	}
}

// Each place itself that a block has is allowed, and each block from 0 on; each
// number up to the last is a need that may be, done or not.
func TestP7_1AddAtTheEdges(t *testing.T) {
	s := New()
	add(t, s, 1, 0, 0, api.Size, 1)
	for i, x := range [][3]int{{0, 127, 1}, {0, 0, 1}, {0, 1, 127}, {math.MaxInt, 5, 1}, {math.MaxInt32 + 1, 0, api.Size}} {
		add(t, s, i+2, x[0], x[1], x[2], byte(i), 1, i+1)
	}
	done(t, s, 1, 2)
	add(t, s, 7, 9, 0, 1, 1, 1, 2, 6)
	needs(t, s, 7, 6)
	same(t, "blocks", s.Blocks(), 0, 9, math.MaxInt32+1, math.MaxInt)
}

func TestP7_1Needs(t *testing.T) {
	s := New()
	for id := 1; id <= 6; id++ {
		add(t, s, id, id, 0, 1, byte(id))
	}
	done(t, s, 2, 5)
	add(t, s, 7, 10, 0, 1, 0, 6, 1, 6, 5, 3, 1, 2, 3) // rising, each once, the pending alone
	needs(t, s, 7, 1, 3, 6)
	add(t, s, 8, 10, 1, 1, 0, 2, 5)
	needs(t, s, 8)
	add(t, s, 9, 10, 0, 2, 0, 7, 6) // needs and overlapped, one of both kinds
	needs(t, s, 9, 6, 7, 8)
	samePatch(t, func() api.Patch { p, _ := s.Get(9); return p }(), api.Patch{ID: 9, Block: 10, Off: 0, Bytes: []byte{0, 0}, Needs: []int{6, 7, 8}})
}

func TestP7_1Overlap(t *testing.T) {
	for _, x := range []struct {
		off, many int
		yes       bool
	}{
		{0, 10, false}, {0, 11, true}, {9, 1, false}, {10, 1, true}, {12, 2, true}, {14, 1, true}, {15, 1, false}, {14, 9, true}, {15, 9, false},
		{10, 5, true}, {0, 128, true}, {9, 7, true}, {11, 1, true}, {127, 1, false},
	} {
		s := New()
		add(t, s, 1, 3, 10, 5, 1)
		add(t, s, 2, 4, x.off, x.many, 2) // another block
		needs(t, s, 2)
		add(t, s, 3, 3, x.off, x.many, 3)
		if x.yes {
			needs(t, s, 3, 1)
		} else {
			needs(t, s, 3)
		}
	}
	s := New()
	add(t, s, 1, 3, 0, 4, 1)
	add(t, s, 2, 3, 2, 4, 2)
	add(t, s, 3, 3, 3, 1, 3)
	add(t, s, 4, 3, 0, 9, 4) // all that lie below, not the uppermost alone
	needs(t, s, 4, 1, 2, 3)
	done(t, s, 1)
	add(t, s, 5, 3, 0, 9, 5) // what is done is needed no more
	needs(t, s, 5, 2, 3, 4)
}

func TestP7_2Now(t *testing.T) {
	s := New()
	add(t, s, 1, 5, 0, 4, 1)
	add(t, s, 2, 5, 2, 4, 2, 1)
	add(t, s, 3, 6, 0, 1, 9)
	add(t, s, 4, 5, 3, 1, 3, 3) // the block now has what may not be written, too
	add(t, s, 5, 5, 127, 1, 8)
	got, e := s.Now(5, full(7))
	want := full(7)
	copy(want, []byte{1, 1, 2, 3, 2, 2})
	want[127] = 8
	if e != api.OK || !bytes.Equal(got, want) {
		t.Fatalf("%x, %v", got, e)
	}
	done(t, s, 1, 2)
	got, _ = s.Now(5, full(7))
	want = full(7)
	want[3], want[127] = 3, 8
	if !bytes.Equal(got, want) {
		t.Fatalf("%x", got)
	}
	for _, block := range []int{math.MinInt, -1, 0, 4, 7, math.MaxInt} { // without patches: as on the disk
		if got, e := s.Now(block, full(7)); e != api.OK || !bytes.Equal(got, full(7)) {
			t.Fatalf("Now(%d): %x, %v", block, got, e)
		}
		plansNone(t, s, block)
	}
}

func TestP7_2WrongDisks(t *testing.T) {
	s := busy(t)
	for _, disk := range [][]byte{nil, {}, {1}, make([]byte, 127, 128), make([]byte, 129), make([]byte, 0, 128), make([]byte, 256)} {
		for _, block := range []int{math.MinInt, -1, 0, 1, 5, 6, math.MaxInt} { // with and without something to write
			stays(t, s, api.ErrArg, func() api.Errno {
				got, e := s.Now(block, disk)
				if len(got) != 0 {
					t.Fatalf("%x", got)
				}
				return e
			})
			stays(t, s, api.ErrArg, func() api.Errno {
				got, ids, e := s.Plan(block, disk)
				if len(got) != 0 || len(ids) != 0 {
					t.Fatalf("%x, %v", got, ids)
				}
				return e
			})
		}
	}
}

func TestP7_2PlanOfTheChapter(t *testing.T) {
	s := New()
	add(t, s, 1, 5, 0, 2, 1)
	add(t, s, 2, 6, 0, 1, 2, 1)
	add(t, s, 3, 5, 1, 1, 3, 2)
	plans(t, s, 5, []byte{1, 1, 0}, 1) // 3 is rolled back
	plansNone(t, s, 6)
	done(t, s, 1)
	plans(t, s, 6, []byte{2}, 2)
	plansNone(t, s, 5)
	done(t, s, 2)
	plans(t, s, 5, []byte{0, 3, 0}, 3)
}

func TestP7_2PlanIsTheGreatestSet(t *testing.T) {
	s := New()
	add(t, s, 1, 0, 0, 1, 1)
	add(t, s, 2, 5, 0, 2, 2)        // may be
	add(t, s, 3, 5, 1, 2, 3, 1)     // not: 1 is of another block
	add(t, s, 4, 5, 2, 2, 4)        // not: it lies over 3
	add(t, s, 5, 5, 9, 1, 5, 2)     // may be, with 2
	add(t, s, 6, 5, 20, 1, 6, 4)    // not: needs 4
	add(t, s, 7, 5, 9, 2, 7, 5)     // may be, with 5
	add(t, s, 8, 5, 30, 1, 8, 7, 6) // not: needs 6
	want := full(0)
	copy(want, []byte{2, 2})
	want[9], want[10] = 7, 7
	plans(t, s, 5, want, 2, 5, 7)
	done(t, s, 1)
	copy(want, []byte{2, 3, 4, 4})
	want[20], want[30] = 6, 8
	plans(t, s, 5, want, 2, 3, 4, 5, 6, 7, 8)
}

// A plan is told, not made: what it tells is pending still.
func TestP7_2PlanChangesNothing(t *testing.T) {
	s := busy(t)
	was := tell(s)
	if !reflect.DeepEqual(was, tell(s)) {
		t.Fatal("telling has changed something")
	}
}

func TestP7_3Done(t *testing.T) {
	s := New()
	add(t, s, 1, 5, 0, 2, 1)
	add(t, s, 2, 6, 0, 1, 2, 1)
	add(t, s, 3, 5, 1, 1, 3)
	add(t, s, 4, 8, 0, 1, 4)
	for _, ids := range [][]int{{2}, {3}, {2, 3}, {4, 2}, {3, 4}, {2, 2}} {
		stays(t, s, api.ErrState, func() api.Errno { return s.Done(ids) })
	}
	for _, ids := range [][]int{nil, {}} {
		stays(t, s, api.OK, func() api.Errno { return s.Done(ids) })
	}
	done(t, s, 2, 1, 2, 1) // in any order, and twice
	if !s.IsDone(1) || !s.IsDone(2) || s.IsDone(3) || s.IsDone(4) {
		t.Fatal("not what was told")
	}
	same(t, "of 5", s.Of(5), 3)
	same(t, "of 6", s.Of(6))
	stays(t, s, api.OK, func() api.Errno { return s.Done([]int{1, 2}) }) // those that were stay so
	done(t, s, 1, 3)
	same(t, "blocks", s.Blocks(), 8)
	if s.Last() != 4 {
		t.Fatal(s.Last())
	}
}

func TestP7_3DoneRefuses(t *testing.T) {
	s := busy(t)
	for _, id := range wrong(s.Last()) {
		for _, ids := range [][]int{{id}, {1, id}, {id, 7}, {7, id}, {6, id}, {id, 3}} { // ErrPatch is named first
			stays(t, s, api.ErrPatch, func() api.Errno { return s.Done(ids) })
		}
	}
	// Needs that are at one remove: 3 needs 2, 5 needs 3, 6 needs 5.
	for _, ids := range [][]int{{3}, {5}, {6}, {2, 5}, {2, 3, 6}, {3, 5, 6}, {7, 3}, {1, 3}} {
		stays(t, s, api.ErrState, func() api.Errno { return s.Done(ids) })
	}
	done(t, s, 6, 5, 3, 2)
	same(t, "blocks", s.Blocks(), 6)
}

// All that a patch overlaps must be ahead of it, not the uppermost alone.
func TestP7_3DoneAsksForAllThatIsOverlapped(t *testing.T) {
	s := New()
	add(t, s, 1, 5, 0, 4, 1)
	add(t, s, 2, 5, 2, 4, 2)
	add(t, s, 3, 5, 0, 6, 3)
	add(t, s, 4, 5, 3, 1, 4)
	for _, ids := range [][]int{{4}, {3, 4}, {2, 3, 4}, {1, 3, 4}, {1, 2, 4}, {1, 4}, {1, 3}, {2}} {
		stays(t, s, api.ErrState, func() api.Errno { return s.Done(ids) })
	}
	done(t, s, 4, 3, 2, 1)
}

func TestP7_3IsDone(t *testing.T) {
	s := busy(t)
	for _, id := range wrong(s.Last()) {
		if s.IsDone(id) {
			t.Errorf("IsDone(%d)", id)
		}
	}
	for id := 1; id <= s.Last(); id++ {
		if s.IsDone(id) != (id == 1 || id == 4) {
			t.Errorf("IsDone(%d): %v", id, s.IsDone(id))
		}
	}
	if New().IsDone(1) || New().IsDone(0) {
		t.Error("of a new set")
	}
}

func TestP7_4Get(t *testing.T) {
	s := busy(t)
	for _, id := range append(wrong(s.Last()), 1, 4) { // unknown, and done
		p, e := s.Get(id)
		answers(t, api.ErrPatch, e)
		isZero(t, p)
	}
	for _, want := range []api.Patch{
		{ID: 2, Block: 6, Bytes: []byte{2}}, {ID: 3, Block: 5, Off: 1, Bytes: []byte{3}, Needs: []int{2}},
		{ID: 5, Block: 7, Off: 12, Bytes: []byte{5, 5, 5, 5}, Needs: []int{3}}, {ID: 6, Bytes: full(6), Needs: []int{5}}, {ID: 7, Block: 6, Off: 100, Bytes: []byte{7}},
	} {
		p, e := s.Get(want.ID)
		answers(t, api.OK, e)
		samePatch(t, p, want)
	}
	needs(t, s, 3, 2)
	done(t, s, 2)
	needs(t, s, 3) // as far as they are pending now
}

func TestP7_4OfAndBlocks(t *testing.T) {
	s := busy(t)
	same(t, "blocks", s.Blocks(), 0, 5, 6, 7)
	for block, want := range map[int][]int{0: {6}, 5: {3}, 6: {2, 7}, 7: {5}, 1: nil, -1: nil, 8: nil, math.MinInt: nil, math.MaxInt: nil} {
		same(t, "of", s.Of(block), want...)
	}
	for i := range 30 {
		add(t, s, 8+i, 100-7*(i%10), i, 1, 1)
	}
	same(t, "blocks", s.Blocks(), 0, 5, 6, 7, 37, 44, 51, 58, 65, 72, 79, 86, 93, 100)
	same(t, "of 100", s.Of(100), 8, 18, 28)
	done(t, s, 18)
	same(t, "of 100", s.Of(100), 8, 28)
	done(t, s, 28, 8)
	same(t, "of 100", s.Of(100))
	same(t, "blocks", s.Blocks(), 0, 5, 6, 7, 37, 44, 51, 58, 65, 72, 79, 86, 93)
}

func TestP7_4Closure(t *testing.T) {
	s := busy(t)
	same(t, "none", s.Closure(nil))
	same(t, "none", s.Closure([]int{}))
	same(t, "unknown and done", s.Closure(append(wrong(s.Last()), 1, 4)))
	same(t, "2", s.Closure([]int{2}), 2)
	same(t, "3", s.Closure([]int{3}), 2, 3)
	same(t, "6", s.Closure([]int{6}), 2, 3, 5, 6)
	same(t, "7, 3, 3, 0, 99", s.Closure([]int{7, 3, 3, 0, 99}), 2, 3, 7)
	done(t, s, 2)
	same(t, "6", s.Closure([]int{6}), 3, 5, 6)
	overlaid := New()
	add(t, overlaid, 1, 5, 0, 4, 1)
	add(t, overlaid, 2, 5, 3, 4, 2)
	add(t, overlaid, 3, 5, 6, 1, 3)
	add(t, overlaid, 4, 5, 20, 1, 4)
	same(t, "overlaid", overlaid.Closure([]int{3}), 1, 2, 3)
}

func TestP7_5Undo(t *testing.T) {
	s := busy(t)
	for _, last := range []int{math.MinInt, -1, s.Last() + 1, math.MaxInt} {
		stays(t, s, api.ErrArg, func() api.Errno { return s.Undo(last) })
	}
	for _, last := range []int{0, 1, 2, 3} { // 4 is done
		stays(t, s, api.ErrState, func() api.Errno { return s.Undo(last) })
	}
	stays(t, s, api.OK, func() api.Errno { return s.Undo(7) })
	answers(t, api.OK, s.Undo(5))
	if s.Last() != 5 || s.IsDone(6) || s.IsDone(7) {
		t.Fatal(s.Last())
	}
	same(t, "blocks", s.Blocks(), 5, 6, 7)
	same(t, "of 6", s.Of(6), 2)
	if _, e := s.Get(6); e != api.ErrPatch {
		t.Fatal(e)
	}
	if _, e := s.Add(0, 0, []byte{1}, []int{6}); e != api.ErrPatch {
		t.Fatal(e)
	}
	answers(t, api.ErrPatch, s.Done([]int{6}))
	answers(t, api.OK, s.Undo(4))
	stays(t, s, api.ErrState, func() api.Errno { return s.Undo(3) })
	add(t, s, 5, 6, 0, 1, 8, 3) // the numbers are given again
	needs(t, s, 5, 2, 3)
	fresh := New()
	answers(t, api.OK, fresh.Undo(0))
	add(t, fresh, 1, 0, 0, 1, 1)
	answers(t, api.OK, fresh.Undo(0))
	if fresh.Last() != 0 || len(fresh.Blocks()) != 0 {
		t.Fatal("something is left")
	}
}

// nothing fails unless each call of a set that no call made answers nothing.
func nothing(t *testing.T, s *Set) {
	t.Helper()
	for _, n := range []int{math.MinInt, -1, 0, 1, math.MaxInt} {
		for _, l := range [][]int{nil, {n}} {
			id, e := s.Add(n, n, []byte{1}, l)
			if id != 0 {
				t.Fatal(id)
			}
			answers(t, api.ErrNil, e)
			answers(t, api.ErrNil, s.Done(l))
			same(t, "closure", s.Closure(l))
		}
		for _, disk := range [][]byte{nil, full(1)} {
			now, e := s.Now(n, disk)
			answers(t, api.ErrNil, e)
			plan, ids, e := s.Plan(n, disk)
			answers(t, api.ErrNil, e)
			if len(now) != 0 || len(plan) != 0 || len(ids) != 0 {
				t.Fatal(now, plan, ids)
			}
		}
		p, e := s.Get(n)
		answers(t, api.ErrNil, e)
		isZero(t, p)
		same(t, "of", s.Of(n))
		answers(t, api.ErrNil, s.Undo(n))
		if s.IsDone(n) {
			t.Fatal(n)
		}
	}
	same(t, "blocks", s.Blocks())
	if s.Last() != 0 {
		t.Fatal(s.Last())
	}
}

func TestNoCallMadeIt(t *testing.T) {
	nothing(t, nil)
	nothing(t, &Set{})
}

// scribble overwrites a list, with the room behind its end.
func scribble[T any](l []T, x T) {
	l = l[:cap(l)]
	for i := range l {
		l[i] = x
	}
}

func TestMemoryOfArguments(t *testing.T) {
	s := busy(t)
	whole, ids, disk := []byte{1, 2, 3, 4}, []int{7, 2, 7, 3, 99}, append(full(5), 6, 7)
	if _, e := s.Add(7, 0, whole[1:3], ids[:4]); e != api.OK {
		t.Fatal(e)
	}
	s.Closure(ids[:4])
	for block := range 8 {
		s.Now(block, disk[:api.Size])
		s.Plan(block, disk[:api.Size])
	}
	s.Done(ids[1:4:4])
	if !bytes.Equal(whole, []byte{1, 2, 3, 4}) || !slices.Equal(ids, []int{7, 2, 7, 3, 99}) || !bytes.Equal(disk, append(full(5), 6, 7)) {
		t.Fatal(whole, ids, disk)
	}
	was := tell(s)
	scribble(whole, 9)
	scribble(ids, 1)
	scribble(disk, 9)
	if !reflect.DeepEqual(was, tell(s)) {
		t.Fatal("an argument was kept")
	}
}

func TestMemoryOfAnswers(t *testing.T) {
	s := busy(t)
	add(t, s, 8, 5, 0, 9, 8, 2, 7)
	was, disk := tell(s), full(5)
	for range 2 {
		for id := range s.Last() + 1 {
			p, _ := s.Get(id)
			scribble(p.Bytes, 0xaa)
			scribble(p.Needs, 77)
			scribble(s.Closure([]int{id}), 77)
		}
		for block := range 9 {
			now, _ := s.Now(block, disk)
			plan, ids, _ := s.Plan(block, disk)
			scribble(now, 0xaa)
			scribble(plan, 0xaa)
			scribble(ids, 77)
			scribble(s.Of(block), 77)
		}
		scribble(s.Blocks(), 77)
	}
	if !reflect.DeepEqual(was, tell(s)) || !bytes.Equal(disk, full(5)) {
		t.Fatal("an answer shares memory with the set, or with an argument")
	}
}
