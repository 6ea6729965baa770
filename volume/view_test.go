package volume

import (
	"math"
	"testing"

	"bollard/api"
)

func TestP9_6Freeze(t *testing.T) {
	for _, room := range []int{0, 1, maxRoom - 1, 1 << 16} {
		_, v := fresh(t, 4, 4)
		answers(t, api.OK, v.Freeze(room))
		if v.Kept() != 0 || v.Broken() {
			t.Fatal("something is kept, or broken, at first")
		}
		for _, again := range []int{math.MinInt, -1, 0, room, 1<<16 + 1, math.MaxInt} {
			stays(t, v, api.ErrState, func() api.Errno { return v.Freeze(again) })
		}
		answers(t, api.OK, v.Thaw())
	}
	_, v := fresh(t, 4, 4)
	for _, room := range []int{math.MinInt, -1, 1<<16 + 1, math.MaxInt} {
		stays(t, v, api.ErrArg, func() api.Errno { return v.Freeze(room) })
	}
}

func TestP9_6Thaw(t *testing.T) {
	_, v := fresh(t, 4, 4)
	stays(t, v, api.ErrState, v.Thaw)
	answers(t, api.OK, v.Freeze(1))
	change(t, v, 1, 3, 0, 9)
	change(t, v, 2, 2, 0, 9)
	if v.Kept() != 1 || !v.Broken() {
		t.Fatal(v.Kept(), v.Broken())
	}
	answers(t, api.OK, v.Thaw())
	if v.Kept() != 0 || v.Broken() {
		t.Fatal("it is frozen no more")
	}
	stays(t, v, api.ErrState, v.Thaw)
	stays(t, v, api.ErrState, noBlock(t, v.Old, 3))
	reads(t, v, 3, with(3, 0, 9)) // the volume stays as it is
	same(t, "dirty", v.Dirty(), 2, 3)
	answers(t, api.OK, v.Freeze(1))
	if v.Kept() != 0 || v.Broken() {
		t.Fatal("a new view is not new")
	}
	olds(t, v, 3, with(3, 0, 9))
}

func TestP9_6Old(t *testing.T) {
	_, v := fresh(t, 6, 6)
	change(t, v, 1, 3, 0, 9)
	stays(t, v, api.ErrState, noBlock(t, v.Old, 3))
	answers(t, api.OK, v.Freeze(2))
	for b := range 3 {
		olds(t, v, b, full(byte(b)))
	}
	olds(t, v, 3, with(3, 0, 9))
	change(t, v, 2, 3, 0, 8)
	change(t, v, 3, 3, 1, 7) // just the first one keeps it
	change(t, v, 4, 2, 0, 6)
	olds(t, v, 3, with(3, 0, 9))
	olds(t, v, 2, full(2))
	reads(t, v, 3, with(3, 0, 8, 7))
	if v.Kept() != 2 || v.Broken() {
		t.Fatal(v.Kept(), v.Broken()) // as many as there is room for
	}
	change(t, v, 5, 3, 2, 5)
	change(t, v, 6, 2, 2, 5)
	if v.Broken() {
		t.Fatal("what is kept needs no more room")
	}
	for _, b := range wrong(6) {
		stays(t, v, api.ErrBlock, noBlock(t, v.Old, b))
	}
}

func TestP9_6Broken(t *testing.T) {
	_, v := fresh(t, 6, 6)
	answers(t, api.OK, v.Freeze(1))
	change(t, v, 1, 3, 0, 9)
	refuses(t, v, api.ErrArg, 2, -1, []byte{1}, nil) // a change that is refused breaks nothing
	refuses(t, v, api.ErrPatch, 2, 0, []byte{1}, []int{2})
	change(t, v, 2, 2, 0, 9)
	if !v.Broken() || v.Kept() != 1 {
		t.Fatal(v.Broken(), v.Kept())
	}
	for _, b := range append(wrong(6), 0, 2, 3) { // ErrState comes first
		stays(t, v, api.ErrState, noBlock(t, v.Old, b))
	}
	change(t, v, 3, 4, 0, 9)
	answers(t, api.OK, v.Sync([]int{1, 2, 3}))
	if !v.Broken() || v.Kept() != 1 {
		t.Fatal("it stays broken")
	}
	stays(t, v, api.ErrState, func() api.Errno { return v.Freeze(5) })
	answers(t, api.OK, v.Thaw())
	answers(t, api.OK, v.Freeze(0))
	olds(t, v, 3, with(3, 0, 9))
	change(t, v, 4, 3, 0, 8)
	if !v.Broken() || v.Kept() != 0 {
		t.Fatal("without room the first change breaks it")
	}
}

func TestP9_6OldFails(t *testing.T) {
	d, v := fresh(t, 6, 1)
	answers(t, api.OK, v.Freeze(2))
	change(t, v, 1, 3, 0, 9)
	reads(t, v, 5, full(5)) // block 3 has no buffer now
	d.Fail(2, 1)
	d.Fail(3, 1)
	answers(t, api.ErrIO, noBlock(t, v.Old, 2)())
	answers(t, api.ErrIO, noBlock(t, v.Old, 3)()) // Read's error, though it is kept
	olds(t, v, 2, full(2))
	olds(t, v, 3, full(3))
}
