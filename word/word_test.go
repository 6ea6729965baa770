package word

import (
	"bytes"
	"encoding/binary"
	"hash/adler32"
	"math"
	"math/rand"
	"testing"

	"bollard/api"
)

// roomy is a list with other bytes ahead of it and in the room behind its end.
func roomy(list []byte) (whole, part []byte) {
	whole = append([]byte{0xa1, 0xa2}, list...)
	whole = append(whole, 0xb1, 0xb2, 0xb3, 0xb4)
	return whole, whole[2 : 2+len(list)]
}

// handsOff fails if a call changes what it was handed, or answers memory of it.
func handsOff(t *testing.T, list []byte, call func([]byte) []byte) {
	t.Helper()
	whole, part := roomy(list)
	was := bytes.Clone(whole)
	answer := call(part)
	if !bytes.Equal(whole, was) {
		t.Fatalf("the list that was handed in is changed: %x, was %x", whole, was)
	}
	all := answer[:cap(answer)]
	for i := range all {
		all[i] ^= 0xff
	}
	if !bytes.Equal(whole, was) {
		t.Fatal("the answer shares memory with the list that was handed in")
	}
}

func TestP1_1GetNumbers(t *testing.T) {
	b := []byte{0x01, 0x82, 0x03, 0xff, 0xfe, 0x00}
	for _, x := range []struct{ at, width, n int }{
		{0, 1, 0x01}, {1, 1, 0x82}, {3, 1, 0xff}, {5, 1, 0},
		{0, 2, 0x8201}, {4, 2, 0xfe},
		{0, 3, 0x038201}, {3, 3, 0x00feff},
		{0, 4, 0xff038201}, {1, 4, 0xfeff0382}, {2, 4, 0x00feff03},
	} {
		if n, e := Get(b, x.at, x.width); n != x.n || e != api.OK {
			t.Errorf("Get(%d, %d): %#x, %v; want %#x", x.at, x.width, n, e, x.n)
		}
	}
	for width := 1; width <= 4; width++ {
		full := bytes.Repeat([]byte{0xff}, width)
		if n, e := Get(full, 0, width); n != 1<<(8*width)-1 || e != api.OK {
			t.Errorf("the greatest of width %d: %d, %v", width, n, e)
		}
	}
}

// placeErrors are refused alike by Get and by Put of 0, of a list of six bytes.
func placeErrors() map[[2]int]api.Errno {
	return map[[2]int]api.Errno{
		{0, 0}: api.ErrArg, {0, 5}: api.ErrArg, {0, -1}: api.ErrArg,
		{0, math.MaxInt}: api.ErrArg, {0, math.MinInt}: api.ErrArg,
		{-1, 1}: api.ErrArg, {math.MinInt, 4}: api.ErrArg, {-1, 5}: api.ErrArg,
		{6, 1}: api.ErrPast, {5, 2}: api.ErrPast, {4, 3}: api.ErrPast, {3, 4}: api.ErrPast,
		{math.MaxInt, 1}: api.ErrPast, {math.MaxInt, 4}: api.ErrPast, {math.MaxInt - 3, 4}: api.ErrPast,
		{7, 0}: api.ErrArg, {math.MaxInt, 5}: api.ErrArg, // both apply: the first that is named
	}
}

func TestP1_1GetRefuses(t *testing.T) {
	b := []byte{1, 2, 3, 4, 5, 6}
	for x, want := range placeErrors() {
		if n, e := Get(b, x[0], x[1]); n != 0 || e != want {
			t.Errorf("Get(%d, %d): %d, %v; want 0, %v", x[0], x[1], n, e, want)
		}
	}
	for _, none := range [][]byte{nil, {}} {
		if n, e := Get(none, 0, 1); n != 0 || e != api.ErrPast {
			t.Errorf("Get of no bytes: %d, %v", n, e)
		}
		if n, e := Get(none, 0, 0); n != 0 || e != api.ErrArg {
			t.Errorf("Get of no bytes, no width: %d, %v", n, e)
		}
	}
	whole := []byte{1, 2, 3, 4}
	if n, e := Get(whole[:2], 1, 2); n != 0 || e != api.ErrPast {
		t.Errorf("Get reads the room behind the end: %d, %v", n, e)
	}
}

func TestP1_1PutBytes(t *testing.T) {
	b := []byte{9, 9, 9, 9, 9, 9}
	for _, x := range []struct {
		at, width, n int
		want         []byte
	}{
		{0, 2, 258, []byte{2, 1, 9, 9, 9, 9}},
		{4, 2, 258, []byte{9, 9, 9, 9, 2, 1}},
		{5, 1, 0, []byte{9, 9, 9, 9, 9, 0}},
		{0, 1, 255, []byte{255, 9, 9, 9, 9, 9}},
		{1, 2, 65535, []byte{9, 255, 255, 9, 9, 9}},
		{1, 3, 0xfedcba, []byte{9, 0xba, 0xdc, 0xfe, 9, 9}},
		{1, 3, 1<<24 - 1, []byte{9, 255, 255, 255, 9, 9}},
		{2, 4, 0xff030201, []byte{9, 9, 1, 2, 3, 0xff}},
		{2, 4, 1<<32 - 1, []byte{9, 9, 255, 255, 255, 255}},
		{2, 4, 0, []byte{9, 9, 0, 0, 0, 0}},
	} {
		if got, e := Put(b, x.at, x.width, x.n); !bytes.Equal(got, x.want) || e != api.OK {
			t.Errorf("Put(%d, %d, %d): %x, %v; want %x", x.at, x.width, x.n, got, e, x.want)
		}
	}
}

func TestP1_1PutRefuses(t *testing.T) {
	b := []byte{1, 2, 3, 4, 5, 6}
	refused := func(b []byte, at, width, n int, want api.Errno) {
		t.Helper()
		if got, e := Put(b, at, width, n); len(got) != 0 || e != want {
			t.Errorf("Put(%d, %d, %d): %x, %v; want none, %v", at, width, n, got, e, want)
		}
	}
	for x, want := range placeErrors() {
		refused(b, x[0], x[1], 0, want)
	}
	for width := 1; width <= 4; width++ {
		for _, n := range []int{-1, 1 << (8 * width), 1<<(8*width) + 1, math.MinInt, math.MaxInt} {
			refused(b, 0, width, n, api.ErrArg)
			refused(b, 6, width, n, api.ErrArg) // past the end, too: the first that is named
			refused(nil, 0, width, n, api.ErrArg)
		}
		refused(nil, 0, width, 0, api.ErrPast)
		refused([]byte{}, 0, width, 0, api.ErrPast)
	}
	refused(b[:2], 1, 2, 0, api.ErrPast) // the room behind the end is not the list's
}

func TestP1_1PutMemory(t *testing.T) {
	handsOff(t, []byte{1, 2, 3, 4}, func(b []byte) []byte {
		out, _ := Put(b, 1, 2, 513)
		return out
	})
	handsOff(t, []byte{1, 2, 3, 4}, func(b []byte) []byte {
		out, _ := Put(b, 3, 2, 513)
		return out
	})
}

func TestP1_2Sum(t *testing.T) {
	for _, x := range []struct {
		b    []byte
		want int
	}{
		{nil, 1}, {[]byte{}, 1}, {[]byte("a"), 0x00620062}, {[]byte{0}, 0x00010001},
		{[]byte("Wikipedia"), 0x11e60398},
	} {
		if got := Sum(x.b); got != x.want {
			t.Errorf("Sum(%q): %#x, want %#x", x.b, got, x.want)
		}
	}
	source := rand.New(rand.NewSource(1))
	for _, length := range []int{1, 2, 3, 127, 128, 256, 257, 258, 5552, 5553, 70000, 300001} {
		b := make([]byte, length)
		source.Read(b)
		top := bytes.Repeat([]byte{0xff}, length) // both halves go round often
		for _, list := range [][]byte{b, top} {
			if got, want := Sum(list), int(adler32.Checksum(list)); got != want {
				t.Errorf("Sum of %d bytes: %#x, want %#x", length, got, want)
			}
		}
	}
	handsOff(t, []byte{1, 2, 3}, func(b []byte) []byte { Sum(b); return nil })
}

func TestP1_2Seal(t *testing.T) {
	for length := range 4 {
		if got, e := Seal(make([]byte, length)); len(got) != 0 || e != api.ErrPast {
			t.Errorf("Seal of %d bytes: %x, %v", length, got, e)
		}
	}
	if got, e := Seal(nil); len(got) != 0 || e != api.ErrPast {
		t.Errorf("Seal of none: %x, %v", got, e)
	}
	if got, e := Seal([]byte{7, 7, 7, 7}); !bytes.Equal(got, []byte{1, 0, 0, 0}) || e != api.OK {
		t.Errorf("Seal of four: %x, %v", got, e)
	}
	if got, e := Seal([]byte("a????")); !bytes.Equal(got, []byte{'a', 0x62, 0, 0x62, 0}) || e != api.OK {
		t.Errorf("Seal of five: %x, %v", got, e)
	}
	top := bytes.Repeat([]byte{0xff}, 2000) // a sum with its top bit set
	got, e := Seal(top)
	want := binary.LittleEndian.AppendUint32(bytes.Clone(top[:1996]), adler32.Checksum(top[:1996]))
	if !bytes.Equal(got, want) || e != api.OK {
		t.Errorf("Seal of 2000: %x, %v", got[1990:], e)
	}
	handsOff(t, []byte("abcdefgh"), func(b []byte) []byte { out, _ := Seal(b); return out })
	handsOff(t, []byte("abc"), func(b []byte) []byte { out, _ := Seal(b); return out })
}

func TestP1_2Sealed(t *testing.T) {
	for _, b := range [][]byte{
		nil, {}, {1}, {1, 0}, {1, 0, 0}, {0, 0, 0, 0}, {0, 0, 0, 1}, {2, 0, 0, 0},
		{1, 0, 0, 0, 0}, {'a', 0, 0x62, 0, 0x62}, []byte("abcdefgh"),
	} {
		if Sealed(b) {
			t.Errorf("Sealed(%x)", b)
		}
	}
	for _, b := range [][]byte{{1, 0, 0, 0}, {'a', 0x62, 0, 0x62, 0}, {0, 1, 0, 1, 0}} {
		if !Sealed(b) {
			t.Errorf("not Sealed(%x)", b)
		}
	}
	if whole := []byte{1, 0, 0, 0}; Sealed(whole[:3]) {
		t.Error("Sealed reads the room behind the end")
	}
	handsOff(t, []byte{1, 0, 0, 0}, func(b []byte) []byte { Sealed(b); return nil })
}

func TestP1_4ThereAndBack(t *testing.T) {
	source := rand.New(rand.NewSource(4))
	for range 5000 {
		b := make([]byte, 1+source.Intn(20))
		source.Read(b)
		width := 1 + source.Intn(4)
		if width > len(b) {
			continue
		}
		at := source.Intn(len(b) - width + 1)
		n := source.Intn(1 << (8 * width))
		out, e := Put(b, at, width, n)
		if e != api.OK || len(out) != len(b) {
			t.Fatalf("Put(%x, %d, %d, %d): %x, %v", b, at, width, n, out, e)
		}
		if got, e := Get(out, at, width); got != n || e != api.OK {
			t.Fatalf("Get of Put(%x, %d, %d, %d): %d, %v", b, at, width, n, got, e)
		}
		if !bytes.Equal(out[:at], b[:at]) || !bytes.Equal(out[at+width:], b[at+width:]) {
			t.Fatalf("Put(%x, %d, %d, %d) changed another byte: %x", b, at, width, n, out)
		}
	}
}

func TestP1_5Sealed(t *testing.T) {
	source := rand.New(rand.NewSource(5))
	for _, length := range []int{4, 5, 8, 32, 128, 1000} {
		b := make([]byte, length)
		source.Read(b)
		sealed, e := Seal(b)
		if e != api.OK || !Sealed(sealed) || !bytes.Equal(sealed[:length-4], b[:length-4]) {
			t.Fatalf("Seal of %d bytes: %x, %v", length, sealed, e)
		}
		for at := range sealed {
			turn := 1 + source.Intn(255)
			for _, by := range []int{1, 0x80, 0xff, turn} {
				sealed[at] ^= byte(by)
				if Sealed(sealed) {
					t.Fatalf("sealed with byte %d of %d turned by %d", at, length, by)
				}
				sealed[at] ^= byte(by)
			}
		}
	}
}
