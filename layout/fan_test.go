package layout

import (
	"bytes"
	"slices"
	"testing"

	"bollard/api"
)

// fanBytes is the bytes of numbers of width 2.
func fanBytes(l []int) []byte {
	var out []byte
	for _, n := range l {
		out = append(out, numbers(2, n)...)
	}
	return out
}

// rising is 64 addresses from a first one on.
func rising(first int) []int {
	l := make([]int, 64)
	for i := range l {
		l[i] = first + i
	}
	return l
}

func TestP3_1FanBytes(t *testing.T) {
	for _, l := range [][]int{make([]int, 64), rising(0), rising(200), rising(1984), slices.Repeat([]int{2047}, 64), slices.Repeat([]int{2047, 0}, 32)} {
		b, e := EncodeFan(l)
		if !bytes.Equal(b, fanBytes(l)) || e != api.OK {
			t.Errorf("%v: %x, %v", l, b, e)
		}
		again, e := DecodeFan(b)
		if !slices.Equal(again, l) || e != api.OK {
			t.Errorf("%x: %v, %v", b, again, e)
		}
	}
}

func TestP3_1FanMayNot(t *testing.T) {
	for _, l := range [][]int{nil, {}, {1}, rising(1)[:63], append(rising(1), 65), append(rising(1), rising(1)...), make([]int, 1<<16), rising(1985)} {
		mayNot(t, l, EncodeFan)
	}
	for at := range 64 {
		for _, n := range append(wild(), 2048, 2049, 0xffff, 0x10000) {
			l := rising(1)
			l[at] = n
			mayNot(t, l, EncodeFan)
		}
	}
}

func TestP3_2FanForm(t *testing.T) {
	for at := range 64 {
		for _, n := range []int{2048, 2049, 4096, 0x8000, 0xffff} {
			l := rising(1)
			l[at] = n
			if got, e := DecodeFan(fanBytes(l)); len(got) != 0 || e != api.ErrForm {
				t.Errorf("%d at %d: %v, %v", n, at, got, e)
			}
		}
	}
	if got, e := DecodeFan(bytes.Repeat([]byte{0xff}, 128)); len(got) != 0 || e != api.ErrForm {
		t.Error(got, e)
	}
}

// TestP3_1FanHandsOff: the addresses stay as they were, and no answer shares
// memory with them or with another answer.
func TestP3_1FanHandsOff(t *testing.T) {
	whole := append(append([]int{-7}, rising(5)...), -8, -9)
	was := slices.Clone(whole)
	b, e := EncodeFan(whole[1:65])
	if e != api.OK || !slices.Equal(whole, was) {
		t.Fatal(e, whole)
	}
	kept := bytes.Clone(b)
	first, _ := DecodeFan(b)
	second, _ := DecodeFan(b)
	for i, all := 0, first[:cap(first)]; i < len(all); i++ {
		all[i] = -1
	}
	if !slices.Equal(second, rising(5)) || !bytes.Equal(b, kept) {
		t.Error("two answers share memory")
	}
	for i := range whole {
		whole[i] = 0
	}
	if !bytes.Equal(b, kept) {
		t.Error("the list that was handed in is kept")
	}
}
