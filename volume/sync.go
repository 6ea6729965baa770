package volume

import (
	"slices"

	"bollard/api"
)

// Sync gets patches to the disk, with all that they need.
func (v *Volume) Sync(ids []int) api.Errno {
	if !v.made() {
		return api.ErrNil
	}
	v.guard.Lock()
	defer v.guard.Unlock()
	if !v.known(ids) {
		return api.ErrPatch
	}
	failed := v.drain()
	wanted := v.patches.Closure(ids)
	for len(wanted) > 0 && failed == api.OK {
		failed = v.round(wanted)
		wanted = slices.DeleteFunc(wanted, v.patches.IsDone)
	}
	if failed != api.OK {
		return api.ErrIO
	}
	return api.OK
}

func (v *Volume) known(ids []int) bool {
	last := v.patches.Last()
	return !slices.ContainsFunc(ids, func(id int) bool { return id < 1 || id > last })
}

// drain completes all writes of the disk's queue: OK, or an error that one of
// them has.
func (v *Volume) drain() api.Errno {
	failed := api.OK
	for range v.disk.Queue() {
		failed = max(failed, v.complete(0, true))
	}
	return failed
}

// round writes, of the blocks that have a wanted patch, as many as the disk's
// queue takes, and completes them: OK, or an error that one of these has. It
// goes on behind an error, so that what the other blocks have gets to the disk
// all the same. Each round gets on: the lowest of the wanted patches needs none
// that is pending, so that its block is ready.
func (v *Volume) round(wanted []int) api.Errno {
	failed := api.OK
	for _, b := range v.ready() {
		if v.hasOneOf(wanted, b) && len(v.disk.Queue()) < api.MaxQueue {
			failed = max(failed, v.write(b))
		}
	}
	return max(failed, v.drain())
}

// hasOneOf tells whether a block has a patch of a rising list.
func (v *Volume) hasOneOf(wanted []int, b int) bool {
	return slices.ContainsFunc(v.patches.Of(b), func(id int) bool {
		_, found := slices.BinarySearch(wanted, id)
		return found
	})
}
