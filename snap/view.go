package snap

import (
	"bollard/api"
	"bollard/volume"
)

// view is what a snapshot has of its volume. This is embedded in it, and not
// the volume itself: whoever has a snapshot has no call that changes the
// volume.
type view struct {
	volume *volume.Volume // nil, once it was dropped
}

func (w *view) block(b int) ([]byte, api.Errno) {
	if w.volume == nil {
		return nil, api.ErrGone
	}
	return w.volume.Old(b)
}

// kept and broken lean on what a volume that is none answers.
func (w *view) kept() int {
	return w.volume.Kept()
}

func (w *view) broken() bool {
	return w.volume.Broken()
}

func (w *view) drop() api.Errno {
	if w.volume == nil {
		return api.ErrGone
	}
	if why := w.volume.Thaw(); why != api.OK {
		return why
	}
	w.volume = nil
	return api.OK
}
