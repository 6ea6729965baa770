package file

import (
	"bytes"
	"math"
	"testing"

	"bollard/api"
)

// holed has a file 3 with a hole in each kind of its blocks: of direct ones
// there are 1 and 3, of Single's 5 and 67, of Double's 68, 70, 132 and 4163,
// its last one, in which it ends.
func holed(t *testing.T) *book {
	t.Helper()
	k := newBook(two)
	for _, i := range []int{1, 3, 5, 67, 68, 70, 132} {
		_, e := k.write(3, i*128, letters(128))
		answers(t, api.OK, e)
	}
	_, e := k.write(3, 4163*128, letters(100))
	answers(t, api.OK, e)
	return k.anew()
}

func TestP15_1Read(t *testing.T) {
	k := holed(t)
	_, v := open(t, k.now)
	size := 4163*128 + 100
	for _, off := range []int{0, 1, 127, 128, 129, 255, 256, 3*128 + 5, 4 * 128, 5*128 - 1, 66*128 + 9, 67*128 + 1, 68 * 128, 69*128 + 127, 131*128 + 3, 4162*128 + 127, size - 101, size - 1, size, size + 1, api.MaxFile, api.MaxFile + 1, math.MaxInt} {
		for _, n := range []int{0, 1, 2, 126, 127, 128, 129, 256, 257, 1000} {
			if b, e := Read(v, two, 3, off, n); !bytes.Equal(b, k.read(3, off, n)) || e != api.OK {
				t.Fatalf("%d from %d on: %x, %v", n, off, b, e)
			}
		}
	}
	for _, n := range []int{size - 1, size, size + 1, api.MaxFile + 1, math.MaxInt} {
		if b, e := Read(v, two, 3, 0, n); !bytes.Equal(b, k.read(3, 0, n)) || e != api.OK {
			t.Fatal(n, len(b), e)
		}
	}
	if v.Last() != 0 {
		t.Fatal("it has patched something")
	}
}

// TestP15_1Example: Write of 3 bytes at 130 of an empty file.
func TestP15_1Example(t *testing.T) {
	_, v := open(t, newBook(one).now)
	ids, e := Write(v, one, 3, 130, []byte("abc"))
	if len(ids) != 2 || e != api.OK {
		t.Fatal(ids, e)
	}
	b, e := Read(v, one, 3, 0, 200)
	if want := append(make([]byte, 130), "abc"...); !bytes.Equal(b, want) || e != api.OK {
		t.Fatal(b, e)
	}
}

// TestP15_1BeyondSize: bytes of a block behind the end are not told.
func TestP15_1BeyondSize(t *testing.T) {
	k := newBook(one)
	k.put(3, api.Dinode{Mode: api.ModeFile, Size: 131, Direct: [4]int{8, 9, 10, 11}})
	_, v := open(t, k.now)
	if b, e := Read(v, one, 3, 126, 500); !bytes.Equal(b, bytes.Repeat([]byte{0xee}, 5)) || e != api.OK {
		t.Fatal(b, e)
	}
	for _, off := range []int{131, 132, 300} {
		if b, e := Read(v, one, 3, off, 500); len(b) != 0 || e != api.OK {
			t.Fatal(b, e)
		}
	}
}

func TestP15_1Refuses(t *testing.T) {
	k := holed(t)
	d, v := open(t, k.now)
	for _, n := range wild() {
		if n < 0 {
			stays(t, d, v, api.ErrArg, askRead(v, two, 3, n, 1), askRead(v, two, 3, 0, n), askRead(v, two, 3, n, n), askRead(v, two, 3, math.MaxInt, n))
		}
	}
}

// TestP15_1Errors: who needs a block that can't be read is told so, and nobody
// else.
func TestP15_1Errors(t *testing.T) {
	k := holed(t)
	ino := k.get(3)
	cases := []struct{ block, from, end int }{
		{ino.Direct[1], 1, 2}, {ino.Direct[3], 3, 4}, {ino.Single, 4, 68}, {k.addr(ino, 5), 5, 6}, {ino.Double, 68, 4164},
		{k.at(ino.Double, 0), 68, 132}, {k.at(ino.Double, 1), 132, 196}, {k.addr(ino, 70), 70, 71}, {k.addr(ino, 4163), 4163, 4164},
	}
	for _, c := range cases {
		d, v := open(t, k.now)
		answers(t, api.OK, d.Fail(c.block, 1000))
		for _, i := range []int{0, 1, 2, 3, 4, 5, 6, 67, 68, 70, 71, 131, 132, 133, 195, 196, 4163} {
			if i >= c.from && i < c.end {
				stays(t, d, v, api.ErrIO, askRead(v, two, 3, i*128+9, 3), askRead(v, two, 3, i*128-1, 2))
				continue
			}
			if b, e := Read(v, two, 3, i*128+9, 3); !bytes.Equal(b, k.read(3, i*128+9, 3)) || e != api.OK {
				t.Fatal(c, i, b, e)
			}
		}
	}
}

// TestP15_1WrongAddresses: indirect blocks that can't be, and blocks that the
// volume has not.
func TestP15_1WrongAddresses(t *testing.T) {
	k := newBook(one)
	k.put(3, api.Dinode{Mode: api.ModeFile, Size: api.MaxFile, Direct: [4]int{0, 40, 2047, 39}, Single: 8, Double: 41})
	d, v := open(t, k.now) // block 8 is 0xee all over: addresses that may not be
	for i, want := range map[int]api.Errno{1: api.ErrBlock, 2: api.ErrBlock, 4: api.ErrForm, 67: api.ErrForm, 68: api.ErrBlock, 4163: api.ErrBlock} {
		stays(t, d, v, want, askRead(v, one, 3, i*128, 1))
	}
	for i, want := range map[int]byte{0: 0, 3: 0xee} {
		if b, e := Read(v, one, 3, i*128, 1); len(b) != 1 || b[0] != want || e != api.OK {
			t.Fatal(b, e)
		}
	}
}

// TestP15_1OwnMemory: an answer is shared with nothing.
func TestP15_1OwnMemory(t *testing.T) {
	k := holed(t)
	_, v := open(t, k.now)
	for range 2 {
		b, e := Read(v, two, 3, 100, 400)
		if !bytes.Equal(b, k.read(3, 100, 400)) || e != api.OK {
			t.Fatal(b, e)
		}
		clear(b[:cap(b)])
	}
}
