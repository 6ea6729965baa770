package word

import (
	"math"
	"math/rand"
	"testing"

	"bollard/api"
)

// stands fails unless a reader has so many bytes left, and that error.
func stands(t *testing.T, r *Reader, left int, e api.Errno) {
	t.Helper()
	if r.Left() != left || r.Err() != e {
		t.Fatalf("left %d, error %v; want %d, %v", r.Left(), r.Err(), left, e)
	}
}

func TestP1_3ReaderGoesOn(t *testing.T) {
	r := Over([]byte{1, 2, 3, 'x', 0xff, 0, 5, 6, 7, 8, 9})
	stands(t, r, 11, api.OK)
	if n := r.Take(2); n != 0x0201 {
		t.Fatal(n)
	}
	stands(t, r, 9, api.OK)
	r.Skip(1)
	stands(t, r, 8, api.OK)
	if s := r.Text(3); s != "x\xff\x00" {
		t.Fatalf("%q", s)
	}
	stands(t, r, 5, api.OK)
	if s := r.Text(0); s != "" {
		t.Fatalf("%q", s)
	}
	r.Skip(0)
	stands(t, r, 5, api.OK)
	if n := r.Take(4); n != 0x08070605 {
		t.Fatalf("%x", n)
	}
	if n := r.Take(1); n != 9 {
		t.Fatal(n)
	}
	stands(t, r, 0, api.OK)
	if s := r.Text(0); s != "" {
		t.Fatalf("%q", s)
	}
	r.Skip(0)
	stands(t, r, 0, api.OK)
}

// wrongCalls are calls of a reader with two bytes left, each with its error.
func wrongCalls() map[string]struct {
	call func(*Reader)
	want api.Errno
} {
	type wrong = struct {
		call func(*Reader)
		want api.Errno
	}
	out := map[string]wrong{}
	take := func(name string, width int, want api.Errno) {
		out["take "+name] = wrong{func(r *Reader) {
			if n := r.Take(width); n != 0 {
				panic(n)
			}
		}, want}
	}
	some := func(name string, n int, want api.Errno) {
		out["text "+name] = wrong{func(r *Reader) {
			if s := r.Text(n); s != "" {
				panic(s)
			}
		}, want}
		out["skip "+name] = wrong{func(r *Reader) { r.Skip(n) }, want}
	}
	take("0", 0, api.ErrArg)
	take("-1", -1, api.ErrArg)
	take("5", 5, api.ErrArg)
	take("least", math.MinInt, api.ErrArg)
	take("greatest", math.MaxInt, api.ErrArg)
	take("3", 3, api.ErrPast)
	take("4", 4, api.ErrPast)
	some("-1", -1, api.ErrArg)
	some("least", math.MinInt, api.ErrArg)
	some("3", 3, api.ErrPast)
	some("greatest", math.MaxInt, api.ErrPast)
	return out
}

func TestP1_3ReaderGivesUp(t *testing.T) {
	for name, first := range wrongCalls() {
		t.Run(name, func(t *testing.T) {
			r := Over([]byte{1, 2, 3})
			r.Skip(1)
			first.call(r)
			stands(t, r, 2, first.want)
			for _, next := range wrongCalls() { // the first error stays
				next.call(r)
				stands(t, r, 2, first.want)
			}
			if n, s := r.Take(1), r.Text(1); n != 0 || s != "" { // what would do is not done
				t.Fatal(n, s)
			}
			r.Skip(1)
			stands(t, r, 2, first.want)
		})
	}
}

func TestP1_3ReaderOfNone(t *testing.T) {
	for _, none := range [][]byte{nil, {}} {
		r := Over(none)
		stands(t, r, 0, api.OK)
		if s := r.Text(0); s != "" {
			t.Fatal(s)
		}
		stands(t, r, 0, api.OK)
		if n := r.Take(1); n != 0 {
			t.Fatal(n)
		}
		stands(t, r, 0, api.ErrPast)
		r = Over(none)
		r.Take(9) // both apply: the first that is named
		stands(t, r, 0, api.ErrArg)
	}
	r := Over([]byte{1, 2, 3})
	if n := r.Take(4); n != 0 {
		t.Fatal(n)
	}
	stands(t, r, 3, api.ErrPast)
	r = Over([]byte{1, 2, 3}[:1])
	r.Skip(2) // the room behind the end is not the list's
	stands(t, r, 1, api.ErrPast)
}

func TestP1_3ReaderMadeByNoCall(t *testing.T) {
	for _, r := range []*Reader{nil, {}, new(Reader)} {
		stands(t, r, 0, api.ErrNil)
		for _, n := range []int{math.MinInt, -1, 0, 1, 4, 5, math.MaxInt} {
			if r.Take(n) != 0 || r.Text(n) != "" {
				t.Fatal(n)
			}
			r.Skip(n)
			stands(t, r, 0, api.ErrNil)
		}
	}
}

func TestP1_3ReaderHasItsOwnCopy(t *testing.T) {
	whole, part := roomy([]byte{1, 2, 3, 4, 'a', 'b'})
	r := Over(part)
	for i := range whole {
		whole[i] = 0xee
	}
	if n := r.Take(4); n != 0x04030201 {
		t.Fatalf("%x", n)
	}
	if s := r.Text(2); s != "ab" {
		t.Fatalf("%q", s)
	}
	handsOff(t, []byte{1, 2, 3}, func(b []byte) []byte {
		r := Over(b)
		r.Take(2)
		r.Text(1)
		r.Take(1)
		return nil
	})
	one, other := Over(part), Over(part)
	one.Skip(3)
	stands(t, other, 6, api.OK)
}

func TestP1_6AsGet(t *testing.T) {
	source := rand.New(rand.NewSource(6))
	for range 500 {
		b := make([]byte, source.Intn(60))
		source.Read(b)
		r, at := Over(b), 0
		for {
			width := source.Intn(7) - 1
			want, e := Get(b, at, width)
			if n := r.Take(width); n != want {
				t.Fatalf("Take(%d) at %d of %x: %d, want %d", width, at, b, n, want)
			}
			if e != api.OK {
				stands(t, r, len(b)-at, e)
				break
			}
			at += width
			stands(t, r, len(b)-at, api.OK)
		}
	}
}
