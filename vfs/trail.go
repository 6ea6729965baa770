package vfs

import (
	"maps"
	"slices"
)

// trail is the patches of earlier calls behind which those of later ones come,
// beside those that lie in the same places. (A list has the one patch's number,
// or is empty.)
type trail struct {
	moved []int           // the last move: it took a directory's old name away
	named map[int][]int   // by directory: it gave it the name that it has
	gone  map[place][]int // by name: it took that away
}

func newTrail() trail {
	return trail{named: map[int][]int{}, gone: map[place][]int{}}
}

// forget forgets what is on the disk: nobody has to wait for that.
func (f *FS) forget() {
	isDone := func(ids []int) bool { return !slices.ContainsFunc(ids, f.isPending) }
	maps.DeleteFunc(f.trail.named, func(_ int, ids []int) bool { return isDone(ids) })
	maps.DeleteFunc(f.trail.gone, func(_ place, ids []int) bool { return isDone(ids) })
}

func (f *FS) isPending(id int) bool {
	return !f.volume.IsDone(id)
}
