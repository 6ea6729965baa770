package disk

import (
	"slices"

	"bollard/api"
)

// Write puts a write behind all others of the queue: its number.
func (d *Disk) Write(b int, bytes []byte) (int, api.Errno) {
	switch {
	case !d.made():
		return 0, api.ErrNil
	case !d.has(b) || len(bytes) != api.Size:
		return 0, api.ErrArg
	case d.busy(b):
		return 0, api.ErrBusy
	case len(d.queue) >= api.MaxQueue:
		return 0, api.ErrState
	}
	d.last++
	d.queue = append(d.queue, write{id: d.last, block: b, bytes: sectorOf(bytes)})
	return d.last, api.OK
}

// Queue is all writes that are not done yet, the oldest first.
func (d *Disk) Queue() []api.Sent {
	if !d.made() {
		return nil
	}
	sent := make([]api.Sent, len(d.queue))
	for i, w := range d.queue {
		sent[i] = api.Sent{ID: w.id, Block: w.block, Bytes: w.bytes.list()}
	}
	return sent
}

// Complete does a write of the queue, or has it fail; either way it is gone from there.
func (d *Disk) Complete(id int, ok bool) api.Errno {
	if !d.made() {
		return api.ErrNil
	}
	at := d.place(id)
	if at < 0 {
		return api.ErrWrite
	}
	w := d.queue[at]
	d.queue = slices.Delete(d.queue, at, at+1)
	if !ok {
		return api.ErrIO
	}
	d.sectors[w.block] = w.bytes
	return api.OK
}

// Crash does some writes of the queue, and loses the others. All of them are
// looked for ahead of the first being done, so that a refusal changes nothing;
// their order plays no part, as no two writes of the queue are of one block.
func (d *Disk) Crash(done []int) api.Errno {
	if !d.made() {
		return api.ErrNil
	}
	for _, id := range done {
		if d.place(id) < 0 {
			return api.ErrWrite
		}
	}
	for _, id := range done {
		w := d.queue[d.place(id)]
		d.sectors[w.block] = w.bytes
	}
	d.queue = nil
	clear(d.fails)
	return api.OK
}

func (d *Disk) busy(b int) bool {
	return slices.ContainsFunc(d.queue, func(w write) bool { return w.block == b })
}

// place is where a write stands in the queue, or below 0.
func (d *Disk) place(id int) int {
	return slices.IndexFunc(d.queue, func(w write) bool { return w.id == id })
}
