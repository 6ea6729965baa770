package volume

import (
	"slices"

	"bollard/api"
)

// sent is a write on the way: its number in the disk's queue, which has its
// block and its bytes too, and the patches that it has.
type sent struct {
	id      int
	patches []int
}

// upTo is it without the patches behind one.
func (w sent) upTo(last int) sent {
	isBehind := func(id int) bool { return id > last }
	return sent{id: w.id, patches: slices.DeleteFunc(slices.Clone(w.patches), isBehind)}
}

// Ready is the blocks of which something may be written now.
func (v *Volume) Ready() []int {
	if !v.made() {
		return nil
	}
	v.guard.Lock()
	defer v.guard.Unlock()
	return v.ready()
}

// Way is the blocks that are on the way.
func (v *Volume) Way() []int {
	if !v.made() {
		return nil
	}
	v.guard.Lock()
	defer v.guard.Unlock()
	return v.onWay()
}

// Write sends a block to the disk.
func (v *Volume) Write(b int) api.Errno {
	if !v.made() {
		return api.ErrNil
	}
	v.guard.Lock()
	defer v.guard.Unlock()
	return v.write(b)
}

// Complete tells that the kth write of the disk's queue is done, or failed.
func (v *Volume) Complete(k int, ok bool) api.Errno {
	if !v.made() {
		return api.ErrNil
	}
	v.guard.Lock()
	defer v.guard.Unlock()
	return v.complete(k, ok)
}

// onWay takes the disk's queue at its word: what a crash has lost, or another
// one has sent, is not remembered otherwise.
func (v *Volume) onWay() []int {
	queue := v.disk.Queue()
	blocks := make([]int, len(queue))
	for i, w := range queue {
		blocks[i] = w.Block
	}
	return blocks
}

func (v *Volume) ready() []int {
	onWay := v.onWay()
	var blocks []int
	for _, b := range v.patches.Blocks() {
		if !slices.Contains(onWay, b) && v.mayWrite(b) {
			blocks = append(blocks, b)
		}
	}
	return blocks
}

// mayWrite plans over noughts: which patches may be written does not hang on
// the disk's bytes, and so no read can fail here.
func (v *Volume) mayWrite(b int) bool {
	_, _, why := v.patches.Plan(b, make([]byte, api.Size))
	return why == api.OK
}

func (v *Volume) write(b int) api.Errno {
	switch {
	case !v.has(b):
		return api.ErrBlock
	case slices.Contains(v.onWay(), b):
		return api.ErrState
	}
	bytes, patches, why := v.plan(b)
	if why != api.OK {
		return why
	}
	id, why := v.disk.Write(b, bytes)
	if why != api.OK {
		return why
	}
	v.way[b] = sent{id: id, patches: patches}
	return api.OK
}

// plan reads a block only if there is something to write of it.
func (v *Volume) plan(b int) ([]byte, []int, api.Errno) {
	if !v.mayWrite(b) {
		return nil, nil, api.ErrNone
	}
	onDisk, why := v.cache.Get(b)
	if why != api.OK {
		return nil, nil, why
	}
	return v.patches.Plan(b, onDisk)
}

func (v *Volume) complete(k int, ok bool) api.Errno {
	queue := v.disk.Queue()
	if k < 0 || k >= len(queue) {
		return api.ErrArg
	}
	w := queue[k]
	patches := v.takeOff(w)
	if why := v.disk.Complete(w.ID, ok); why != api.OK {
		return why
	}
	v.cache.Put(w.Block, w.Bytes) // never refused: the disk had taken them
	return v.patches.Done(patches)
}

// takeOff takes a write off the way: the patches that it has. One that the
// volume did not send has none.
func (v *Volume) takeOff(w api.Sent) []int {
	mine := v.way[w.Block]
	if mine.id != w.ID {
		return nil
	}
	delete(v.way, w.Block)
	return mine.patches
}
