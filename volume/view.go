package volume

import (
	"slices"

	"bollard/api"
)

const maxRoom = 1 << 16

// view is a frozen view: what those blocks had that were changed since.
type view struct {
	room   int
	kept   map[int][]byte
	broken bool // it had no room for a block
}

// lacks tells whether a block's bytes have to be kept ahead of a change. (No
// view lacks none.)
func (w *view) lacks(b int) bool {
	return w.whole() && w.kept[b] == nil
}

// whole tells whether there is a view, and it is not broken.
func (w *view) whole() bool {
	return w != nil && !w.broken
}

// keep is asked only for a block that is lacking.
func (w *view) keep(b int, bytes []byte) {
	if len(w.kept) >= w.room {
		w.broken = true
		return
	}
	w.kept[b] = bytes
}

// Freeze keeps what blocks have now, so many at most.
func (v *Volume) Freeze(room int) api.Errno {
	if !v.made() {
		return api.ErrNil
	}
	v.guard.Lock()
	defer v.guard.Unlock()
	switch {
	case v.view != nil:
		return api.ErrState
	case room < 0 || room > maxRoom:
		return api.ErrArg
	}
	v.view = &view{room: room, kept: map[int][]byte{}}
	return api.OK
}

// Thaw ends that.
func (v *Volume) Thaw() api.Errno {
	if !v.made() {
		return api.ErrNil
	}
	v.guard.Lock()
	defer v.guard.Unlock()
	if v.view == nil {
		return api.ErrState
	}
	v.view = nil
	return api.OK
}

// Old is a block's bytes as they were frozen. A block that can't be read is
// told as such, kept or not.
func (v *Volume) Old(b int) ([]byte, api.Errno) {
	if !v.made() {
		return nil, api.ErrNil
	}
	v.guard.Lock()
	defer v.guard.Unlock()
	if !v.view.whole() {
		return nil, api.ErrState
	}
	now, why := v.read(b)
	if why != api.OK {
		return nil, why
	}
	if was := v.view.kept[b]; was != nil {
		return slices.Clone(was), api.OK
	}
	return now, api.OK
}

// Kept is how many blocks are kept.
func (v *Volume) Kept() int {
	if !v.made() {
		return 0
	}
	v.guard.Lock()
	defer v.guard.Unlock()
	if v.view == nil {
		return 0
	}
	return len(v.view.kept)
}

// Broken tells whether there was no room for a block.
func (v *Volume) Broken() bool {
	if !v.made() {
		return false
	}
	v.guard.Lock()
	defer v.guard.Unlock()
	return v.view != nil && v.view.broken
}
