package scan

import (
	"testing"

	"bollard/api"
)

// fault is one thing in the town for which it is refused.
type fault struct {
	name string
	want api.Errno
	do   func(*world)
}

// faults stand in the order of the document; each two of them can be there at
// once.
func faults() []fault {
	var out []fault
	for _, l := range [][]fault{wholeFaults(), inodeFaults(), rootFaults(), directoryFaults(), lastFaults()} {
		out = append(out, l...)
	}
	return out
}

func wholeFaults() []fault {
	return []fault{
		{"a block is too short", api.ErrForm, func(w *world) { w.image[120] = w.image[120][:127] }},
		{"no superblock", api.ErrMagic, func(w *world) { w.image[0][1] = 'x' }},
		{"the superblock's sum", api.ErrSum, func(w *world) { w.image[0][127]++ }},
		{"one block more", api.ErrGeom, func(w *world) { w.image = append(w.image, make([]byte, 128)) }},
		{"the first header's number", api.ErrForm, func(w *world) { w.image[1][2] = 1 }},
		{"no second header", api.ErrMagic, func(w *world) { w.image[129][0]++ }},
		{"the second header's number", api.ErrForm, func(w *world) { w.image[129][2] = 0 }},
	}
}

func inodeFaults() []fault {
	return []fault{
		{"inode 0's sum", api.ErrSum, func(w *world) { w.raw(0)[5] = 1 }},
		{"inode 1 is used", api.ErrShape, func(w *world) { w.put(1, api.Dinode{Mode: api.ModeFile}) }},
		{"a block that the root has, too", api.ErrTwice, func(w *world) {
			w.edit(3, func(d *api.Dinode) { d.Direct[1] = w.addr(2, 1) })
		}},
		{"inode 8's sum", api.ErrSum, func(w *world) { w.raw(8)[31]++ }},
		{"a header", api.ErrOut, func(w *world) { w.edit(9, func(d *api.Dinode) { d.Direct[1] = 129 }) }},
		{"a block that there is not", api.ErrOut, func(w *world) { w.edit(10, func(d *api.Dinode) { d.Double = 256 }) }},
		{"a block that it has itself", api.ErrTwice, func(w *world) {
			w.edit(11, func(d *api.Dinode) { d.Single = d.Direct[3] })
		}},
		{"a block that is not allocated", api.ErrUnset, func(w *world) { w.block(w.addr(12, 3), false) }},
		{"no indirect block", api.ErrForm, func(w *world) {
			w.edit(13, func(d *api.Dinode) { d.Single, d.Direct[3] = d.Direct[3], 0 })
			w.fan(w.get(13).Single, 63, 2048)
		}},
		{"a leaked directory's block is the root's inode's", api.ErrOut, func(w *world) {
			w.edit(16, func(d *api.Dinode) { d.Direct[2] = 2 })
		}},
		{"the last inode's sum", api.ErrSum, func(w *world) { w.raw(31)[0] = 1 }},
	}
}

func rootFaults() []fault {
	return []fault{
		{"the root is a file", api.ErrShape, func(w *world) { w.edit(2, func(d *api.Dinode) { d.Mode = api.ModeFile }) }},
		{"a root's block that may not be", api.ErrShape, func(w *world) { w.image[w.addr(2, 1)][127] = 1 }},
		{"the root's . is another one", api.ErrShape, func(w *world) { w.slot(2, 0, 0, entry(4, ".")) }},
		{"a root's name is no used inode's", api.ErrOut, func(w *world) { w.slot(2, 0, 3, entry(30, "no")) }},
		{"a root's name is none that is allocated", api.ErrUnset, func(w *world) { w.slot(2, 1, 0, entry(18, "x")) }},
	}
}

func directoryFaults() []fault {
	return []fault{
		{"d has one name twice", api.ErrShape, func(w *world) { w.slot(4, 0, 6, entry(20, "z")) }},
		{"a name in d is one of the many that there are not", api.ErrOut, func(w *world) { w.slot(4, 0, 7, entry(511, "far")) }},
		{"d/z is not allocated", api.ErrUnset, func(w *world) { w.inode(20, false) }},
		{"a block of e is not there", api.ErrShape, func(w *world) { w.edit(5, func(d *api.Dinode) { d.Size += 128 }) }},
		{"a name in e is inode 1's", api.ErrOut, func(w *world) { w.slot(5, 1, 5, entry(1, "one")) }},
		{"d/sub, which comes behind e, has no .", api.ErrShape, func(w *world) { w.slot(7, 0, 0, api.Entry{}) }},
	}
}

func lastFaults() []fault {
	return []fault{
		{"the root's .. is another one", api.ErrShape, func(w *world) { w.slot(2, 0, 1, entry(4, "..")) }},
		{"d/sub's .. is one in which it does not stand", api.ErrShape, func(w *world) { w.slot(7, 0, 1, entry(5, "..")) }},
		{"f says no links", api.ErrLow, func(w *world) { w.links(6, 0) }},
	}
}

// TestP18_1EachError: each of them by itself.
func TestP18_1EachError(t *testing.T) {
	for _, f := range faults() {
		t.Run(f.name, func(t *testing.T) {
			w := town()
			f.do(w)
			refused(t, f.want, w.image)
		})
	}
}

// TestP18_1FirstError: of two the document's first one is told. They are made
// in the other order, too.
func TestP18_1FirstError(t *testing.T) {
	l := faults()
	for i, first := range l {
		for _, second := range l[i+1:] {
			w, v := town(), town()
			first.do(w)
			second.do(w)
			second.do(v)
			first.do(v)
			if e, o := Accept(w.image), Accept(v.image); e != first.want || o != first.want {
				t.Errorf("%s, and %s: %v, %v, want %v", first.name, second.name, e, o, first.want)
			}
		}
	}
}

// TestP18_1Root: it must be a directory, and that is asked behind all inodes.
func TestP18_1Root(t *testing.T) {
	for _, mode := range []int{api.ModeFree, api.ModeFile} {
		w := town()
		if mode == api.ModeFree {
			clear(w.raw(2))
		} else {
			w.edit(2, func(d *api.Dinode) { d.Mode = mode })
		}
		refused(t, api.ErrShape, w.image)
		w.raw(31)[0] = 1
		refused(t, api.ErrSum, w.image)
	}
	w := town()
	clear(w.raw(2))
	w.page(4, 0, entry(4, ".")) // nothing is asked of what is not reached
	w.slot(4, 0, 1, entry(511, "x"))
	refused(t, api.ErrShape, w.image)
}

// TestP18_1RootAllocated: its own . leads to it.
func TestP18_1RootAllocated(t *testing.T) {
	w := town()
	w.inode(2, false)
	refused(t, api.ErrUnset, w.image)
}

// TestP18_1NeverUsed: inodes 0 and 1; their form comes first, their blocks come
// behind.
func TestP18_1NeverUsed(t *testing.T) {
	for ino := range 2 {
		for _, mode := range []int{api.ModeFile, api.ModeDir} {
			w := town()
			w.put(ino, api.Dinode{Mode: mode})
			refused(t, api.ErrShape, w.image)
			w.edit(ino, func(d *api.Dinode) { d.Direct[0] = 1 })
			refused(t, api.ErrShape, w.image)
			w.raw(ino)[31]++
			refused(t, api.ErrSum, w.image)
		}
	}
}

// TestP18_1InodeForm: sealed bytes that no inode has.
func TestP18_1InodeForm(t *testing.T) {
	w := town()
	raw := w.raw(8)
	raw[1] = 1
	one, two := uint32(1), uint32(0)
	for _, c := range raw[:28] {
		one = (one + uint32(c)) % 65521
		two = (two + one) % 65521
	}
	copy(raw[28:], []byte{byte(one), byte(one >> 8), byte(two), byte(two >> 8)})
	refused(t, api.ErrForm, w.image)
	w.edit(9, func(d *api.Dinode) { d.Direct[0] = 1 })
	refused(t, api.ErrForm, w.image)
	w.edit(3, func(d *api.Dinode) { d.Direct[1] = 1 })
	refused(t, api.ErrOut, w.image) // the inode ahead, with all its addresses, comes first
}
