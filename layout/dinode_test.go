package layout

import (
	"testing"

	"bollard/api"
)

const maxFile = (4 + 64 + 64*64) * 128

// dinodeBytes is sealed bytes of an inode, whether it may be or not.
func dinodeBytes(d api.Dinode) []byte {
	a := d.Direct
	b := numbers(1, d.Mode, 1, 0, 2, d.Links, 4, d.Size, 2, a[0], 2, a[1], 2, a[2], 2, a[3], 2, d.Single, 2, d.Double)
	return sealed(padded(b, 28))
}

// fields are an inode's fields but Mode, one by one.
func fields() map[string]func(*api.Dinode) *int {
	return map[string]func(*api.Dinode) *int{
		"Links":  func(d *api.Dinode) *int { return &d.Links },
		"Size":   func(d *api.Dinode) *int { return &d.Size },
		"0":      func(d *api.Dinode) *int { return &d.Direct[0] },
		"1":      func(d *api.Dinode) *int { return &d.Direct[1] },
		"2":      func(d *api.Dinode) *int { return &d.Direct[2] },
		"3":      func(d *api.Dinode) *int { return &d.Direct[3] },
		"Single": func(d *api.Dinode) *int { return &d.Single },
		"Double": func(d *api.Dinode) *int { return &d.Double },
	}
}

// most is the greatest number that a field may have.
func most(field string) int {
	switch field {
	case "Links":
		return 1000
	case "Size":
		return maxFile
	}
	return 2047
}

func used() api.Dinode {
	return api.Dinode{Mode: api.ModeFile, Links: 0x102, Size: 0x70605, Direct: [4]int{0x701, 0x602, 0x503, 0x404}, Single: 0x305, Double: 0x206}
}

func TestP3_1DinodeBytes(t *testing.T) {
	b, e := EncodeDinode(used())
	if e != api.OK || len(b) != 32 {
		t.Fatal(len(b), e)
	}
	if want := "\x01\x00\x02\x01\x05\x06\x07\x00\x01\x07\x02\x06\x03\x05\x04\x04\x05\x03\x06\x02\x00\x00\x00\x00\x00\x00\x00\x00"; string(b[:28]) != want {
		t.Fatalf("%x", b)
	}
	for _, d := range []api.Dinode{
		used(),
		{Mode: api.ModeFile}, {Mode: api.ModeDir}, {Mode: api.ModeFile, Links: 1, Size: 5, Direct: [4]int{9}},
		{Mode: api.ModeFile, Links: 1000, Size: maxFile, Direct: [4]int{2047, 2047, 2047, 2047}, Single: 2047, Double: 2047},
		{Mode: api.ModeDir, Links: 1000, Size: maxFile, Direct: [4]int{2047, 2047, 2047, 2047}, Single: 2047, Double: 2047},
		{Mode: api.ModeFile, Size: maxFile - 1}, {Mode: api.ModeFile, Size: 127}, {Mode: api.ModeDir, Links: 2, Size: 128}, {Mode: api.ModeDir, Size: 256},
	} {
		holds(t, d, dinodeBytes(d), EncodeDinode, DecodeDinode)
	}
	holds(t, api.Dinode{}, make([]byte, 32), EncodeDinode, DecodeDinode)
}

func TestP3_1DinodeEdges(t *testing.T) {
	for name, field := range fields() {
		for _, mode := range []int{api.ModeFile, api.ModeDir} {
			for _, n := range []int{0, most(name)} {
				d := api.Dinode{Mode: mode}
				*field(&d) = n
				holds(t, d, dinodeBytes(d), EncodeDinode, DecodeDinode)
			}
			for _, n := range append(wild(), most(name)+1, most(name)+128, 1<<20) {
				d := api.Dinode{Mode: mode}
				*field(&d) = n
				mayNot(t, d, EncodeDinode)
			}
		}
		for _, n := range append(wild(), 1, 128, most(name)) {
			d := api.Dinode{Mode: api.ModeFree}
			*field(&d) = n
			mayNot(t, d, EncodeDinode)
		}
	}
}

func TestP3_1DinodeMayNot(t *testing.T) {
	for _, mode := range append(wild(), 3, 4, 127, 128, 255, 256, 257) {
		mayNot(t, api.Dinode{Mode: mode}, EncodeDinode)
		d := used()
		d.Mode = mode
		mayNot(t, d, EncodeDinode)
	}
	for _, size := range []int{1, 2, 64, 127, 129, 192, maxFile - 1, maxFile - 64} {
		mayNot(t, api.Dinode{Mode: api.ModeDir, Size: size}, EncodeDinode)
		if _, e := EncodeDinode(api.Dinode{Mode: api.ModeFile, Size: size}); e != api.OK {
			t.Errorf("a file of %d bytes: %v", size, e)
		}
	}
}

func TestP3_2DinodeSum(t *testing.T) {
	good := dinodeBytes(used())
	refused(t, with(good, 28, 0, 0, 0, 0), api.ErrSum, DecodeDinode)
	refused(t, with(good, 0, 3), api.ErrSum, DecodeDinode) // no sum ahead of no form
	for at := range 32 {                                   // one byte alone: neither free nor sealed
		refused(t, with(make([]byte, 32), at, 1), api.ErrSum, DecodeDinode)
	}
}

func TestP3_2DinodeForm(t *testing.T) {
	good := dinodeBytes(used())
	for _, at := range []int{1, 20, 21, 22, 23, 24, 25, 26, 27} {
		for _, x := range []byte{1, 0x80, 0xff} {
			refused(t, resealed(with(good, at, x)), api.ErrForm, DecodeDinode)
			refused(t, resealed(with(make([]byte, 32), at, x)), api.ErrForm, DecodeDinode)
		}
	}
	for mode := 3; mode < 256; mode++ {
		refused(t, resealed(with(good, 0, byte(mode))), api.ErrForm, DecodeDinode)
	}
	for name, field := range fields() {
		for _, n := range []int{most(name) + 1, 0xffff} {
			if n <= most(name) {
				n = 1<<32 - 1
			}
			d := used()
			*field(&d) = n
			refused(t, dinodeBytes(d), api.ErrForm, DecodeDinode)
		}
		d := api.Dinode{}
		*field(&d) = 1
		refused(t, dinodeBytes(d), api.ErrForm, DecodeDinode)
	}
	refused(t, dinodeBytes(api.Dinode{Mode: api.ModeDir, Size: 127}), api.ErrForm, DecodeDinode)
	refused(t, dinodeBytes(api.Dinode{Mode: api.ModeFree, Direct: [4]int{9}}), api.ErrForm, DecodeDinode)
}

// TestP3_4DinodeOneForm: a free inode is written as noughts alone.
func TestP3_4DinodeOneForm(t *testing.T) {
	holds(t, api.Dinode{}, make([]byte, 32), EncodeDinode, DecodeDinode)
	refused(t, sealed(make([]byte, 28)), api.ErrForm, DecodeDinode)
}

func TestP3_5DinodeByteTurned(t *testing.T) {
	for _, d := range []api.Dinode{
		{Mode: api.ModeFile}, {Mode: api.ModeDir}, used(), {Mode: api.ModeDir, Links: 2, Size: 128, Direct: [4]int{5}},
		{Mode: api.ModeFile, Links: 1000, Size: maxFile, Direct: [4]int{2047, 2047, 2047, 2047}, Single: 2047, Double: 2047},
	} {
		good, _ := EncodeDinode(d)
		for at := range good {
			for x := 1; x < 256; x++ {
				b := with(good, at, good[at]^byte(x))
				if got, e := DecodeDinode(b); e != api.ErrSum || got != (api.Dinode{}) {
					t.Fatalf("%v, byte %d turned by %x: %v, %v", d, at, x, got, e)
				}
			}
		}
	}
}
