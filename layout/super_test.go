package layout

import (
	"math"
	"testing"

	"bollard/api"
)

func superOf(groups, blocks, inodes, mounts int) api.Super {
	return api.Super{Geom: api.Geom{Groups: groups, Blocks: blocks, Inodes: inodes}, Mounts: mounts}
}

// superBytes is sealed bytes of a superblock, whether it may be or not.
func superBytes(groups, blocks, inodes, mounts int) []byte {
	b := append([]byte{0x62, 0x6f, 0x6c, 0x6c}, numbers(1, groups, 1, blocks-1, 1, inodes, 1, 0, 4, mounts)...)
	return sealed(padded(b, 124))
}

func TestP3_1SuperBytes(t *testing.T) {
	b, e := EncodeSuper(superOf(2, 16, 8, 0x04030201))
	if e != api.OK || len(b) != 128 {
		t.Fatal(len(b), e)
	}
	if string(b[:13]) != "boll\x02\x0f\x08\x00\x01\x02\x03\x04\x00" {
		t.Fatalf("%x", b[:13])
	}
	for _, x := range [][4]int{
		{2, 16, 8, 3}, {1, 32, 8, 0}, {1, 8, 4, 1}, {8, 256, 64, 1<<32 - 1}, {8, 256, 4, 1 << 31}, {1, 256, 64, math.MaxInt32},
		{1, 8, 20, 0}, {1, 9, 24, 0}, {3, 19, 64, 255}, {7, 18, 60, 256},
	} {
		holds(t, superOf(x[0], x[1], x[2], x[3]), superBytes(x[0], x[1], x[2], x[3]), EncodeSuper, DecodeSuper)
	}
}

func TestP3_1SuperMayNot(t *testing.T) {
	for _, x := range [][4]int{
		{0, 16, 8, 0}, {9, 16, 8, 0}, {1, 7, 4, 0}, {1, 257, 4, 0}, {1, 16, 0, 0}, {1, 32, 68, 0}, {0, 0, 0, 0},
		{1, 16, 3, 0}, {1, 16, 5, 0}, {1, 16, 6, 0}, {1, 16, 7, 0}, {1, 32, 63, 0},
		{1, 8, 24, 0}, {1, 18, 64, 0}, {8, 9, 28, 0},
		{1, 16, 8, -1}, {1, 16, 8, 1 << 32}, {1, 16, 8, 1<<32 + 1},
	} {
		mayNot(t, superOf(x[0], x[1], x[2], x[3]), EncodeSuper)
	}
	for _, n := range wild() {
		mayNot(t, superOf(n, 16, 8, 0), EncodeSuper)
		mayNot(t, superOf(1, n, 8, 0), EncodeSuper)
		mayNot(t, superOf(1, 16, n, 0), EncodeSuper)
		mayNot(t, superOf(1, 16, 8, n), EncodeSuper)
		mayNot(t, superOf(n, n, n, n), EncodeSuper)
	}
	mayNot(t, api.Super{}, EncodeSuper)
}

func TestP3_2SuperMagic(t *testing.T) {
	good := superBytes(1, 16, 8, 0)
	refused(t, make([]byte, 128), api.ErrMagic, DecodeSuper)
	for at := range 4 {
		for _, x := range []byte{0, 'B', good[at] + 1, 0xff} {
			refused(t, with(good, at, x), api.ErrMagic, DecodeSuper)
			refused(t, resealed(with(good, at, x)), api.ErrMagic, DecodeSuper)
		}
	}
	refused(t, good[1:], api.ErrForm, DecodeSuper) // too short ahead of no magic
	refused(t, make([]byte, 127), api.ErrForm, DecodeSuper)
	refused(t, with(good, 3, 'k', 0, 9), api.ErrMagic, DecodeSuper) // no magic ahead of no sum, no form
	refused(t, append([]byte{0}, good[:127]...), api.ErrMagic, DecodeSuper)
}

func TestP3_2SuperSum(t *testing.T) {
	good := superBytes(1, 16, 8, 0)
	for at := 4; at < 128; at++ {
		refused(t, with(good, at, good[at]+1), api.ErrSum, DecodeSuper)
	}
	refused(t, with(good, 124, 0, 0, 0, 0), api.ErrSum, DecodeSuper)
	refused(t, padded([]byte("boll"), 128), api.ErrSum, DecodeSuper)
	refused(t, with(good, 4, 9), api.ErrSum, DecodeSuper) // no sum ahead of no form
}

func TestP3_2SuperForm(t *testing.T) {
	good := superBytes(1, 16, 8, 0)
	for at := range 124 {
		if at < 4 || at >= 8 && at < 12 || at == 5 {
			continue // the magic; Mounts, which may be all; Blocks, nearly so
		}
		for _, x := range []byte{1, 0x80, 0xff} {
			if at == 4 && x == 1 {
				continue
			}
			refused(t, resealed(with(good, at, x)), api.ErrForm, DecodeSuper)
		}
	}
	for _, x := range [][4]int{
		{0, 16, 8, 0}, {9, 16, 8, 0}, {255, 16, 8, 0}, {1, 1, 4, 0}, {1, 7, 4, 0}, {1, 8, 24, 0}, {1, 18, 64, 0},
		{1, 16, 0, 0}, {1, 16, 1, 0}, {1, 16, 10, 0}, {1, 256, 68, 0}, {1, 256, 252, 0}, {1, 256, 255, 0},
	} {
		refused(t, superBytes(x[0], x[1], x[2], x[3]), api.ErrForm, DecodeSuper)
	}
	refused(t, sealed(padded([]byte("boll"), 124)), api.ErrForm, DecodeSuper)
}

func TestP3_5SuperByteTurned(t *testing.T) {
	for _, good := range [][]byte{superBytes(1, 8, 4, 0), superBytes(2, 16, 8, 7), superBytes(8, 256, 64, 1<<32-1)} {
		for at := range good {
			for x := 1; x < 256; x++ {
				b := with(good, at, good[at]^byte(x))
				want := api.ErrSum
				if at < 4 {
					want = api.ErrMagic
				}
				if s, e := DecodeSuper(b); e != want || s != (api.Super{}) {
					t.Fatalf("byte %d turned by %x: %v, %v", at, x, s, e)
				}
			}
		}
	}
}
