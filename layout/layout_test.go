package layout

import (
	"bytes"
	"encoding/binary"
	"hash/adler32"
	"math"
	"testing"

	"bollard/api"
)

// kind is a structure's calls, whatever it is: decode's first result says
// whether what it told is the zero thing, its second one encodes it again.
type kind struct {
	name   string
	size   int
	sample []byte
	decode func([]byte) (zero bool, again []byte, e api.Errno)
}

func kindOf[T comparable](name string, sample T, encode func(T) ([]byte, api.Errno), decode func([]byte) (T, api.Errno)) kind {
	b, e := encode(sample)
	if e != api.OK {
		panic(name)
	}
	return kind{name, len(b), b, func(b []byte) (bool, []byte, api.Errno) {
		var zero T
		x, e := decode(b)
		if e != api.OK {
			return x == zero, nil, e
		}
		again, _ := encode(x)
		return x == zero, again, e
	}}
}

// fan is a list of addresses that can be compared.
type fan [api.Fan]int

func encodeFan(f fan) ([]byte, api.Errno) { return EncodeFan(f[:]) }

func decodeFan(b []byte) (fan, api.Errno) {
	l, e := DecodeFan(b)
	if e != api.OK {
		var zero fan
		if len(l) != 0 {
			zero[0] = -1 // with an error there is no list
		}
		return zero, e
	}
	return fan(l), e
}

func kinds() []kind {
	return []kind{
		kindOf("super", api.Super{Geom: api.Geom{Groups: 2, Blocks: 16, Inodes: 8}, Mounts: 7}, EncodeSuper, DecodeSuper),
		kindOf("group", api.Group{Number: 3, Inodes: [8]byte{1, 2}, Blocks: [32]byte{0xff, 31: 0x80}}, EncodeGroup, DecodeGroup),
		kindOf("dinode", api.Dinode{Mode: api.ModeDir, Links: 2, Size: 128, Direct: [4]int{9}}, EncodeDinode, DecodeDinode),
		kindOf("entry", api.Entry{Ino: 2, Name: "name"}, EncodeEntry, DecodeEntry),
		kindOf("fan", fan{9, 10, 63: 2047}, encodeFan, decodeFan),
	}
}

// numbers writes numbers of the widths that stand ahead of each of them.
func numbers(pairs ...int) []byte {
	var out []byte
	for i := 0; i < len(pairs); i += 2 {
		all := binary.LittleEndian.AppendUint64(nil, uint64(pairs[i+1]))
		out = append(out, all[:pairs[i]]...)
	}
	return out
}

// padded is b with noughts behind it, up to size bytes.
func padded(b []byte, size int) []byte {
	return append(bytes.Clone(b), make([]byte, size-len(b))...)
}

// sealed is b with its sum behind it.
func sealed(b []byte) []byte {
	return binary.LittleEndian.AppendUint32(bytes.Clone(b), sum(b))
}

// sum is adler32's, below 2^32 and of as few bytes as these.
func sum(b []byte) uint32 { return adler32.Checksum(b) }

// resealed is b with its last four bytes made right.
func resealed(b []byte) []byte { return sealed(b[:len(b)-4]) }

// with is b with other bytes from a place on.
func with(b []byte, at int, other ...byte) []byte {
	out := bytes.Clone(b)
	copy(out[at:], other)
	return out
}

// wild are numbers that are out of every range.
func wild() []int {
	return []int{math.MinInt, math.MinInt + 1, math.MinInt32, -1 << 32, -1 << 16, -256, -1,
		1 << 32, 1<<32 + 1, math.MaxInt - 1, math.MaxInt}
}

// holds fails unless a thing is written as these bytes, and read from them.
func holds[T comparable](t *testing.T, x T, b []byte, encode func(T) ([]byte, api.Errno), decode func([]byte) (T, api.Errno)) {
	t.Helper()
	if got, e := encode(x); !bytes.Equal(got, b) || e != api.OK {
		t.Errorf("%+v is written as %x, %v; want %x", x, got, e, b)
	}
	if got, e := decode(b); got != x || e != api.OK {
		t.Errorf("%x is read as %+v, %v; want %+v", b, got, e, x)
	}
}

// mayNot fails unless writing a thing is refused.
func mayNot[T any](t *testing.T, x T, encode func(T) ([]byte, api.Errno)) {
	t.Helper()
	if b, e := encode(x); len(b) != 0 || e != api.ErrArg {
		t.Errorf("%+v: %x, %v; want none, %v", x, b, e, api.ErrArg)
	}
}

// refused fails unless reading bytes has that error, and tells the zero thing.
func refused[T comparable](t *testing.T, b []byte, want api.Errno, decode func([]byte) (T, api.Errno)) {
	t.Helper()
	var zero T
	if x, e := decode(b); x != zero || e != want {
		t.Errorf("%x: %+v, %v; want the zero thing, %v", b, x, e, want)
	}
}

func TestP3_2Lengths(t *testing.T) {
	for _, k := range kinds() {
		long := append(bytes.Clone(k.sample), k.sample...)
		short := [][]byte{nil, {}, k.sample[:1], k.sample[:k.size-4], k.sample[:k.size-1], long[:k.size+1], long,
			resealed(k.sample[:k.size-1]), resealed(long), make([]byte, k.size-1), make([]byte, k.size+1), make([]byte, 1<<16)}
		for _, b := range short {
			if zero, _, e := k.decode(b); !zero || e != api.ErrForm {
				t.Errorf("%s of %d bytes: %v, %v", k.name, len(b), zero, e)
			}
		}
		if _, _, e := k.decode(k.sample); e != api.OK {
			t.Errorf("%s of %d bytes: %v", k.name, k.size, e)
		}
	}
}

// TestP3_2RoomBehind: what stands behind a list's end is no part of it.
func TestP3_2RoomBehind(t *testing.T) {
	for _, k := range kinds() {
		if zero, _, e := k.decode(k.sample[:k.size-1]); !zero || e != api.ErrForm {
			t.Errorf("%s with its last byte behind its end: %v", k.name, e)
		}
	}
}

func TestP3_4EachByteTurned(t *testing.T) {
	for _, k := range kinds() {
		for at := range k.sample {
			for x := 1; x < 256; x++ {
				b := with(k.sample, at, k.sample[at]^byte(x))
				if zero, again, e := k.decode(b); e == api.OK && !bytes.Equal(again, b) || e != api.OK && !zero {
					t.Fatalf("%s: %x: %v, again %x", k.name, b, e, again)
				}
			}
		}
	}
}

// TestP3_2HandsOff: bytes that are handed in stay as they were, and what is
// written anew is memory of its own.
func TestP3_2HandsOff(t *testing.T) {
	for _, k := range kinds() {
		whole := append([]byte{0xa1, 0xa2}, k.sample...)
		whole = append(whole, 0xb1, 0xb2, 0xb3, 0xb4)
		was := bytes.Clone(whole)
		_, first, e := k.decode(whole[2 : 2+k.size])
		_, second, _ := k.decode(whole[2 : 2+k.size])
		if e != api.OK {
			t.Fatal(k.name, e)
		}
		first = first[:cap(first)]
		for i := range first {
			first[i] ^= 0xff
		}
		if !bytes.Equal(whole, was) || !bytes.Equal(second, k.sample) {
			t.Errorf("%s: %x, was %x; the second answer %x", k.name, whole, was, second)
		}
	}
}
