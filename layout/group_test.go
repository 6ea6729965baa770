package layout

import (
	"bytes"
	"testing"

	"bollard/api"
)

// groupBytes is a header whose bits count up from a byte on.
func groupBytes(number, first int) []byte {
	b := []byte{0x68, 0x64, byte(number), 0}
	for i := range 40 {
		b = append(b, byte(first+i))
	}
	return padded(b, 128)
}

func groupOf(number, first int) api.Group {
	g := api.Group{Number: number}
	for i := range g.Inodes {
		g.Inodes[i] = byte(first + i)
	}
	for i := range g.Blocks {
		g.Blocks[i] = byte(first + 8 + i)
	}
	return g
}

func TestP3_1GroupBytes(t *testing.T) {
	for number := range 8 {
		for _, first := range []int{0, 1, 100, 230} {
			holds(t, groupOf(number, first), groupBytes(number, first), EncodeGroup, DecodeGroup)
		}
		holds(t, api.Group{Number: number}, padded([]byte{0x68, 0x64, byte(number)}, 128), EncodeGroup, DecodeGroup)
	}
	full := api.Group{Number: 7}
	for i := range full.Inodes {
		full.Inodes[i] = 0xff
	}
	for i := range full.Blocks {
		full.Blocks[i] = 0xff
	}
	b := append([]byte{0x68, 0x64, 7, 0}, bytes.Repeat([]byte{0xff}, 40)...)
	holds(t, full, padded(b, 128), EncodeGroup, DecodeGroup)
}

func TestP3_1GroupMayNot(t *testing.T) {
	for _, n := range append(wild(), 8, 9, 255, 256, 263) {
		mayNot(t, groupOf(n, 1), EncodeGroup)
	}
}

func TestP3_2GroupMagic(t *testing.T) {
	good := groupBytes(1, 1)
	refused(t, make([]byte, 128), api.ErrMagic, DecodeGroup)
	refused(t, superBytes(1, 16, 8, 0), api.ErrMagic, DecodeGroup)
	for at := range 2 {
		for x := 1; x < 256; x++ {
			refused(t, with(good, at, good[at]^byte(x)), api.ErrMagic, DecodeGroup)
		}
	}
	refused(t, with(good, 0, 'd', 'h', 9, 9), api.ErrMagic, DecodeGroup) // no magic ahead of no form
	refused(t, make([]byte, 129), api.ErrForm, DecodeGroup)              // too long ahead of no magic
}

func TestP3_2GroupForm(t *testing.T) {
	good := groupBytes(1, 1)
	for x := 1; x < 256; x++ {
		refused(t, with(good, 3, byte(x)), api.ErrForm, DecodeGroup)
		for _, at := range []int{44, 45, 100, 123, 124, 127} {
			refused(t, with(good, at, byte(x)), api.ErrForm, DecodeGroup)
		}
		if x >= 8 {
			refused(t, with(good, 2, byte(x)), api.ErrForm, DecodeGroup)
		}
	}
	for at := 44; at < 128; at++ {
		refused(t, with(good, at, 1), api.ErrForm, DecodeGroup)
	}
	refused(t, sealed(good[:124]), api.ErrForm, DecodeGroup) // it has no sum
}

// TestP3_4GroupBits: each bit is one of what is told, and no other one's.
func TestP3_4GroupBits(t *testing.T) {
	empty := padded([]byte{0x68, 0x64, 0}, 128)
	for at := 4; at < 44; at++ {
		for bit := range 8 {
			want := api.Group{}
			if at < 12 {
				want.Inodes[at-4] = 1 << bit
			} else {
				want.Blocks[at-12] = 1 << bit
			}
			holds(t, want, with(empty, at, 1<<bit), EncodeGroup, DecodeGroup)
		}
	}
}
