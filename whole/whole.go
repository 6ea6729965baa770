// Package whole is no layer: by it the layers make changes of a volume that
// are there as a whole, or not at all.
package whole

import (
	"errors"

	"bollard/api"
	"bollard/volume"
)

// Do makes changes of a volume one by one, up to the first that has an error:
// that is told then, and all that was patched since Do began is taken back.
func Do(v *volume.Volume, changes ...func() api.Errno) api.Errno {
	last := v.Last()
	for _, change := range changes {
		if why := change(); !errors.Is(why, api.OK) {
			v.Undo(last)
			return why
		}
	}
	return api.OK
}
