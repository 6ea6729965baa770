package scan

import (
	"testing"

	"bollard/api"
)

// yard is a volume with a file, 3, that no name leads to, and with all blocks
// allocated.
func yard() *world {
	w := newWorld(api.Geom{Groups: 2, Blocks: 32, Inodes: 8})
	w.add(3, api.ModeFile)
	for b := range w.image {
		w.block(b, true)
	}
	return w
}

// TestP18_1Out: what is no block of data, by each kind of address.
func TestP18_1Out(t *testing.T) {
	for b := range 70 {
		if b == 4 || b == 0 {
			continue // the root's; none
		}
		want := api.OK
		if b%32 < 4 || b >= 64 {
			want = api.ErrOut
		}
		by := []func(w *world){
			func(w *world) { w.edit(3, func(d *api.Dinode) { d.Direct[0] = b }) },
			func(w *world) { w.edit(3, func(d *api.Dinode) { d.Direct[3] = b }) },
			func(w *world) { w.edit(3, func(d *api.Dinode) { d.Single = b }) },
			func(w *world) { w.edit(3, func(d *api.Dinode) { d.Double = b }) },
		}
		if b < 60 {
			by = append(by,
				func(w *world) { w.edit(3, func(d *api.Dinode) { d.Single = 60 }); w.fan(60, 63, b) },
				func(w *world) { w.edit(3, func(d *api.Dinode) { d.Double = 60 }); w.fan(60, 0, b) },
				func(w *world) { w.edit(3, func(d *api.Dinode) { d.Double = 60 }); w.fan(60, 63, 61); w.fan(61, 1, b) })
		}
		for k, put := range by {
			w := yard()
			put(w)
			if e := Accept(w.image); e != want {
				t.Fatal(b, k, e)
			}
		}
	}
}

// TestP18_1GreatestAddress: the greatest block of the greatest volume is one of
// data; of a smaller volume its address leads out.
func TestP18_1GreatestAddress(t *testing.T) {
	w := newWorld(api.Geom{Groups: 8, Blocks: 256, Inodes: 64})
	w.add(511, api.ModeFile)
	w.block(2047, true)
	w.edit(511, func(d *api.Dinode) { d.Direct[0] = 2047 })
	answers(t, api.OK, Accept(w.image))
	w.block(2047, false)
	refused(t, api.ErrUnset, w.image)

	w = newWorld(api.Geom{Groups: 8, Blocks: 255, Inodes: 64})
	w.add(511, api.ModeFile)
	w.edit(511, func(d *api.Dinode) { d.Direct[0] = 2047 })
	refused(t, api.ErrOut, w.image)
}

// TestP18_1OneAddress: of one address ErrOut comes ahead of ErrUnset, ErrTwice
// ahead of ErrUnset, that ahead of ErrForm.
func TestP18_1OneAddress(t *testing.T) {
	for _, c := range []struct {
		name string
		want api.Errno
		do   func(*world)
	}{
		{"out, not allocated", api.ErrOut, func(w *world) {
			w.block(33, false)
			w.edit(3, func(d *api.Dinode) { d.Single = 33 })
		}},
		{"out, twice", api.ErrOut, func(w *world) {
			w.edit(3, func(d *api.Dinode) { d.Direct[0], d.Direct[1] = 33, 33 })
		}},
		{"out, no indirect block", api.ErrOut, func(w *world) { w.edit(3, func(d *api.Dinode) { d.Single = 32 }) }},
		{"twice, no indirect block", api.ErrTwice, func(w *world) {
			w.fan(9, 0, 2048)
			w.edit(3, func(d *api.Dinode) { d.Direct[0], d.Single = 9, 9 })
		}},
		{"the root's block, as an indirect one", api.ErrTwice, func(w *world) { w.edit(3, func(d *api.Dinode) { d.Double = 4 }) }},
		{"not allocated, and twice behind it", api.ErrUnset, func(w *world) {
			w.block(9, false)
			w.edit(3, func(d *api.Dinode) { d.Direct[0], d.Direct[1] = 9, 9 })
		}},
		{"not allocated, no indirect block", api.ErrUnset, func(w *world) {
			w.block(9, false)
			w.fan(9, 0, 2048)
			w.edit(3, func(d *api.Dinode) { d.Single = 9 })
		}},
		{"no indirect block, and another address there leads out", api.ErrForm, func(w *world) {
			w.fan(9, 0, 1)
			w.fan(9, 63, 0xffff)
			w.edit(3, func(d *api.Dinode) { d.Single = 9 })
		}},
		{"of Double, too", api.ErrForm, func(w *world) {
			w.fan(9, 0, 1)
			w.fan(9, 63, 2048)
			w.edit(3, func(d *api.Dinode) { d.Double = 9 })
		}},
		{"and of a block below it", api.ErrForm, func(w *world) {
			w.fan(9, 5, 10)
			w.fan(9, 6, 1)
			w.fan(10, 63, 2048)
			w.edit(3, func(d *api.Dinode) { d.Double = 9 })
		}},
	} {
		t.Run(c.name, func(t *testing.T) {
			w := yard()
			c.do(w)
			refused(t, c.want, w.image)
		})
	}
}

// TestP18_1AddressOrder: address by address: all errors of one come ahead of
// those of the next.
func TestP18_1AddressOrder(t *testing.T) {
	// Six addresses, from the first on, in the order of Span.
	places := []func(d *api.Dinode, w *world, b int){
		func(d *api.Dinode, w *world, b int) { d.Direct[0] = b },
		func(d *api.Dinode, w *world, b int) { d.Direct[3] = b },
		func(d *api.Dinode, w *world, b int) { w.fan(20, 0, b) },
		func(d *api.Dinode, w *world, b int) { w.fan(20, 63, b) },
		func(d *api.Dinode, w *world, b int) { w.fan(22, 7, b) },
		func(d *api.Dinode, w *world, b int) { w.fan(21, 4, b) },
	}
	wrong := []struct {
		b    int
		want api.Errno
	}{{1, api.ErrOut}, {4, api.ErrTwice}, {12, api.ErrUnset}}
	for i, first := range places {
		for _, second := range places[i+1:] {
			for _, a := range wrong {
				for _, b := range wrong {
					w := yard()
					w.block(12, false)
					d := w.get(3)
					d.Single, d.Double = 20, 21
					w.fan(21, 3, 22)
					first(&d, w, a.b)
					second(&d, w, b.b)
					w.put(3, d)
					if e := Accept(w.image); e != a.want {
						t.Fatal(i, e, a.want, b.want)
					}
				}
			}
		}
	}
}

// TestP18_1Twice: by two addresses of one inode, whatever they are, and by two
// inodes, of which the second is refused.
func TestP18_1Twice(t *testing.T) {
	places := []func(d *api.Dinode, w *world, b int){
		func(d *api.Dinode, w *world, b int) { d.Direct[1] = b },
		func(d *api.Dinode, w *world, b int) { d.Direct[2] = b },
		func(d *api.Dinode, w *world, b int) { d.Single = b },
		func(d *api.Dinode, w *world, b int) { d.Double = b },
		func(d *api.Dinode, w *world, b int) { d.Single = 20; w.fan(20, 9, b) },
		func(d *api.Dinode, w *world, b int) { d.Double = 21; w.fan(21, 9, b) },
		func(d *api.Dinode, w *world, b int) { d.Double = 21; w.fan(21, 8, 22); w.fan(22, 9, b) },
	}
	for i, first := range places {
		w := yard()
		d := w.get(3)
		first(&d, w, 30)
		w.put(3, d)
		answers(t, api.OK, Accept(w.image))
		w.add(9, api.ModeDir)
		w.edit(9, func(d *api.Dinode) { d.Direct[2] = 30 })
		refused(t, api.ErrTwice, w.image)
		for j, second := range places {
			if i == j || i == 2 && j == 4 || i == 4 && j == 2 || i >= 5 && j == 3 || i == 3 && j >= 5 {
				continue // the same field
			}
			w := yard()
			d := w.get(3)
			first(&d, w, 30)
			second(&d, w, 30)
			w.put(3, d)
			refused(t, api.ErrTwice, w.image)
		}
	}
}

// TestP18_1IndirectItself: an indirect block that leads to itself, or to the
// one above.
func TestP18_1IndirectItself(t *testing.T) {
	w := yard()
	w.edit(3, func(d *api.Dinode) { d.Single = 9 })
	w.fan(9, 0, 9)
	refused(t, api.ErrTwice, w.image)

	w = yard()
	w.edit(3, func(d *api.Dinode) { d.Double = 9 })
	w.fan(9, 0, 10)
	w.fan(10, 0, 9)
	refused(t, api.ErrTwice, w.image)
}

// TestP18_1NoBlocks: addresses of 0 are none, and a file may have none at
// all, whatever its Size is.
func TestP18_1NoBlocks(t *testing.T) {
	w := yard()
	w.edit(3, func(d *api.Dinode) { d.Size = api.MaxFile })
	answers(t, api.OK, Accept(w.image))
	w.edit(3, func(d *api.Dinode) { d.Single, d.Double = 9, 10 })
	answers(t, api.OK, Accept(w.image))
}
