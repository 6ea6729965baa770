package file

import (
	"slices"

	"bollard/api"
	"bollard/inode"
	"bollard/volume"
)

// writing is a Write.
type writing struct {
	v        *volume.Volume
	g        api.Geom
	ino, off int
	bytes    []byte
	was, is  api.Dinode
	ahead    []int // what Grow told: it must be on the disk ahead of the inode
	ids      told
}

// fillAll puts the bytes into the file's blocks, each of which it gives the
// file, if there is none.
func (w *writing) fillAll() api.Errno {
	rest := w.bytes
	for _, p := range pieces(w.off, len(w.bytes)) {
		many := p.end - p.from
		if why := w.fill(p, rest[:many]); why != api.OK {
			return why
		}
		rest = rest[many:]
	}
	return api.OK
}

func (w *writing) fill(p piece, bytes []byte) api.Errno {
	b, is, ahead, why := inode.Grow(w.v, w.g, w.ino, w.is, p.number)
	if why != api.OK {
		return why
	}
	w.is = is
	w.ahead = append(w.ahead, ahead...)
	from := p.from
	if isNew := len(ahead) > 0; isNew {
		from, bytes = 0, padded(p, bytes)
	}
	return w.ids.add(w.v.Change(b, from, bytes, nil))
}

// put comes behind fillAll. A size that has turned makes the bytes seen, so
// that they must be on the disk ahead of it.
func (w *writing) put() api.Errno {
	w.is.Size = max(w.was.Size, w.off+len(w.bytes))
	if w.is == w.was {
		return api.OK
	}
	needs := w.ahead
	if w.is.Size != w.was.Size {
		needs = slices.Concat(w.ahead, w.ids)
	}
	return w.ids.add(inode.Put(w.v, w.g, w.ino, w.is, needs))
}

// padded is a whole block of which a piece has these bytes, and all else is
// noughts.
func padded(p piece, bytes []byte) []byte {
	block := make([]byte, api.Size)
	copy(block[p.from:p.end], bytes)
	return block
}
