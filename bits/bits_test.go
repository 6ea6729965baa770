package bits

import (
	"bytes"
	"fmt"
	"math"
	"math/rand"
	"slices"
	"strings"
	"testing"

	"bollard/api"
)

// most is the greatest number of first bits that counts.
const most = 65536

// spell is the first n bits of a row, a character each, for an n that counts
// as itself; what is past the row's end is not set.
func spell(row []byte, n int) string {
	var out strings.Builder
	for _, x := range row {
		digits := []byte(fmt.Sprintf("%08b", x))
		slices.Reverse(digits)
		out.Write(digits)
	}
	out.WriteString(strings.Repeat("0", n))
	return out.String()[:n]
}

// clip is a number of first bits as the chapter counts it.
func clip(n int) int {
	switch {
	case n < 0:
		return 0
	case n > most:
		return most
	}
	return n
}

// full is a row of so many bytes, all of whose bits are set.
func full(length int) []byte {
	return bytes.Repeat([]byte{0xff}, length)
}

// some are rows of many kinds: none, one byte of each kind, and longer ones.
func some() [][]byte {
	rows := [][]byte{nil, {}, {0, 0}, {0xff, 0xff}, {0, 0xff}, {0xff, 0}, {0x0f, 0xf0}, {0xf0, 0x0f}, {0x7f, 0xfe, 0x7f}}
	for x := range 256 {
		rows = append(rows, []byte{byte(x)})
	}
	source := rand.New(rand.NewSource(5))
	for range 60 {
		row := make([]byte, 1+source.Intn(6))
		source.Read(row)
		if source.Intn(2) > 0 { // longer stretches, of both kinds
			row[source.Intn(len(row))] = 0
			row[source.Intn(len(row))] = 0xff
		}
		rows = append(rows, row)
	}
	return rows
}

// numbers are numbers of first bits: all small ones, and the edges.
func numbers() []int {
	out := []int{math.MinInt, math.MinInt32, -most, -8, -1}
	for n := range 60 {
		out = append(out, n)
	}
	return append(out, most-1, most)
}

// beyond are numbers of first bits that count as the greatest one.
func beyond() []int {
	return []int{most + 1, most + 8, 2 * most, math.MaxInt32, math.MaxUint32, math.MaxInt - 1, math.MaxInt}
}

func TestP5_1Has(t *testing.T) {
	for _, row := range some() {
		for i, x := range spell(row, 8*len(row)+20) {
			if got := Has(row, i); got != (x == '1') {
				t.Fatalf("Has(%x, %d): %v", row, i, got)
			}
		}
	}
	lone := []byte{0, 0x10, 0}
	for i := range 24 {
		if Has(lone, i) != (i == 12) {
			t.Errorf("Has(%x, %d)", lone, i)
		}
	}
	for _, row := range [][]byte{nil, {}, full(1), full(9000)} {
		for _, i := range []int{math.MinInt, math.MinInt + 1, math.MinInt32, -9, -8, -7, -1, 8 * len(row), 8*len(row) + 1, math.MaxInt32 + 1, math.MaxInt - 7, math.MaxInt} {
			if Has(row, i) {
				t.Errorf("a row of %d bytes has bit %d", len(row), i)
			}
		}
	}
	if !Has(full(9000), most) || !Has(full(9000), 8*9000-1) {
		t.Error("bits of a long row are not bound by 2^16")
	}
}

func TestP5_1RoomIsNoPartOfARow(t *testing.T) {
	whole := full(5)
	row := whole[1:2]
	for i := 8; i < 40; i++ {
		if Has(row, i) {
			t.Fatalf("bit %d stands behind the row's end", i)
		}
		if got, e := With(row, i, false); len(got) != 0 || e != api.ErrRow {
			t.Fatalf("With(%d): %x, %v", i, got, e)
		}
	}
	if n := Count(row, 40); n != 8 {
		t.Error(n)
	}
	if i, ok := First(row, 40, 0); i != 8 || !ok {
		t.Error(i, ok)
	}
	if l := Runs(row, 40); !slices.Equal(l, []int{32}) {
		t.Error(l)
	}
	if l := Apart(row, whole, 20); !slices.Equal(l, []int{8, 9, 10, 11, 12, 13, 14, 15, 16, 17, 18, 19}) {
		t.Error(l)
	}
}

func TestP5_1With(t *testing.T) {
	for _, x := range []struct {
		row  []byte
		i    int
		on   bool
		want []byte
	}{
		{[]byte{5}, 1, true, []byte{7}}, {[]byte{5}, 0, false, []byte{4}}, {[]byte{5}, 7, true, []byte{0x85}},
		{[]byte{5}, 0, true, []byte{5}}, {[]byte{5}, 1, false, []byte{5}}, // as they were
		{[]byte{0, 0}, 8, true, []byte{0, 1}}, {[]byte{0, 0}, 15, true, []byte{0, 0x80}}, {[]byte{0xff, 0xff}, 7, false, []byte{0x7f, 0xff}},
	} {
		if got, e := With(x.row, x.i, x.on); e != api.OK || !bytes.Equal(got, x.want) {
			t.Errorf("With(%x, %d, %v): %x, %v; want %x", x.row, x.i, x.on, got, e, x.want)
		}
	}
	long := make([]byte, 9000) // the bound on first bits is none on rows
	got, e := With(long, 8*9000-1, true)
	if e != api.OK || len(got) != 9000 || got[8999] != 0x80 {
		t.Error(len(got), e)
	}
}

func TestP5_1WithRefuses(t *testing.T) {
	for _, row := range [][]byte{nil, {}, {5}, {1, 2, 3}, full(9000)} {
		end := 8 * len(row)
		for _, i := range []int{math.MinInt, math.MinInt + 7, math.MinInt32, -8, -7, -1, end, end + 1, end + 8, math.MaxInt32 + 1, math.MaxInt - 8, math.MaxInt} {
			for _, on := range []bool{true, false} {
				if got, e := With(row, i, on); len(got) != 0 || e != api.ErrRow {
					t.Errorf("With of %d bytes, %d, %v: %x, %v", len(row), i, on, got, e)
				}
			}
		}
	}
}

func TestP5_2Count(t *testing.T) {
	for _, row := range some() {
		for _, n := range numbers() {
			want := strings.Count(spell(row, clip(n)), "1")
			if got := Count(row, n); got != want {
				t.Fatalf("Count(%x, %d): %d, want %d", row, n, got, want)
			}
		}
	}
	long := full(most/8 + 9)
	for n, want := range map[int]int{most - 1: most - 1, most: most, 0: 0, -1: 0, math.MinInt: 0} {
		if got := Count(long, n); got != want {
			t.Errorf("Count(%d): %d, want %d", n, got, want)
		}
	}
	for _, n := range beyond() {
		if got := Count(long, n); got != most {
			t.Errorf("Count(%d): %d", n, got)
		}
		if got := Count([]byte{5}, n); got != 2 {
			t.Errorf("Count(05, %d): %d", n, got)
		}
	}
}

// around is First, said again: the bits from a place on, and then those ahead
// of it.
func around(row []byte, n, from int) (int, bool) {
	n = clip(n)
	if from < 0 || from >= n {
		from = 0
	}
	all := spell(row, n)
	if i := strings.IndexByte(all[from:], '0'); i >= 0 {
		return from + i, true
	}
	if i := strings.IndexByte(all[:from], '0'); i >= 0 {
		return i, true
	}
	return 0, false
}

func TestP5_2First(t *testing.T) {
	for _, row := range some() {
		for n := -2; n < 8*len(row)+3; n++ {
			for from := -2; from < n+3; from++ {
				want, wantOK := around(row, n, from)
				if i, ok := First(row, n, from); i != want || ok != wantOK {
					t.Fatalf("First(%x, %d, %d): %d, %v; want %d, %v", row, n, from, i, ok, want, wantOK)
				}
			}
		}
	}
}

func TestP5_2FirstEdges(t *testing.T) {
	for _, x := range []struct {
		row     []byte
		n, from int
		i       int
		ok      bool
	}{
		{[]byte{5}, 3, 1, 1, true}, {[]byte{5}, 3, 2, 1, true}, {[]byte{5}, 3, 0, 1, true}, // the chapter's, and round
		{[]byte{5}, 3, 3, 1, true}, {[]byte{5}, 3, -1, 1, true}, {[]byte{5}, 3, math.MaxInt, 1, true}, {[]byte{5}, 3, math.MinInt, 1, true},
		{[]byte{5}, 1, 0, 0, false}, {[]byte{0xff}, 8, 4, 0, false}, {[]byte{0xff}, 9, 4, 8, true},
		{[]byte{4}, 8, 8, 0, true}, {[]byte{4}, 8, 7, 7, true}, // not below n: from 0
		{[]byte{0xfe}, 8, 1, 0, true}, {[]byte{0xfe}, 8, 7, 0, true}, // round to the very first
		{[]byte{0}, 0, 0, 0, false}, {[]byte{0}, -1, 0, 0, false}, {[]byte{0}, math.MinInt, math.MinInt, 0, false},
		{nil, 5, 3, 3, true}, {nil, 1, 0, 0, true}, {nil, 0, 0, 0, false}, {[]byte{}, most, most - 1, most - 1, true},
	} {
		if i, ok := First(x.row, x.n, x.from); i != x.i || ok != x.ok {
			t.Errorf("First(%x, %d, %d): %d, %v; want %d, %v", x.row, x.n, x.from, i, ok, x.i, x.ok)
		}
	}
}

func TestP5_2FirstBeyond(t *testing.T) {
	set := full(most / 8)
	if i, ok := First(set, most, 77); i != 0 || ok {
		t.Error(i, ok)
	}
	last, _ := With(set, most-1, false)
	for _, n := range append(beyond(), most) {
		if i, ok := First(set, n, 0); i != 0 || ok {
			t.Errorf("First(%d): %d, %v, beyond 2^16", n, i, ok)
		}
		if i, ok := First(last, n, 3); i != most-1 || !ok {
			t.Errorf("First(%d): %d, %v", n, i, ok)
		}
		if i, ok := First([]byte{1}, n, most); i != 1 || !ok { // no place of the first 2^16: from 0
			t.Errorf("First(%d, 2^16): %d, %v", n, i, ok)
		}
		if i, ok := First([]byte{1}, n, most-1); i != most-1 || !ok {
			t.Errorf("First(%d, 2^16 - 1): %d, %v", n, i, ok)
		}
	}
}

// lengths and longest are Runs and Longest, said again by the row's spelling.
func lengths(row []byte, n int) []int {
	var out []int
	for _, part := range strings.Split(spell(row, clip(n)), "1") {
		if part != "" {
			out = append(out, len(part))
		}
	}
	return out
}

func longest(row []byte, n int) (int, int) {
	length := 0
	for _, x := range lengths(row, n) {
		length = max(length, x)
	}
	return max(strings.Index(spell(row, clip(n)), strings.Repeat("0", length)), 0), length
}

func TestP5_3Stretches(t *testing.T) {
	for _, row := range some() {
		for _, n := range numbers() {
			if got, want := Runs(row, n), lengths(row, n); !slices.Equal(got, want) {
				t.Fatalf("Runs(%x, %d): %v, want %v", row, n, got, want)
			}
			at, length := Longest(row, n)
			if wantAt, want := longest(row, n); at != wantAt || length != want {
				t.Fatalf("Longest(%x, %d): %d, %d; want %d, %d", row, n, at, length, wantAt, want)
			}
		}
	}
}

func TestP5_3RunsEdges(t *testing.T) {
	for _, x := range []struct {
		row  []byte
		n    int
		runs []int
	}{
		{[]byte{5}, 4, []int{1, 1}}, {[]byte{5}, 8, []int{1, 5}}, {[]byte{5}, 20, []int{1, 17}}, {[]byte{5}, 3, []int{1}}, {[]byte{5}, 1, nil},
		{[]byte{0x55, 0x55}, 16, []int{1, 1, 1, 1, 1, 1, 1, 1}}, {[]byte{0x0f, 0xf0}, 16, []int{8}}, // over a byte's end
		{nil, 0, nil}, {nil, -1, nil}, {nil, math.MinInt, nil}, {nil, 1, []int{1}}, {[]byte{}, most, []int{most}}, {[]byte{0}, 8, []int{8}},
		{full(3), 24, nil}, {full(3), 25, []int{1}}, {full(3), 0, nil}, {full(3), -5, nil},
	} {
		if got := Runs(x.row, x.n); !slices.Equal(got, x.runs) {
			t.Errorf("Runs(%x, %d): %v, want %v", x.row, x.n, got, x.runs)
		}
	}
	for _, n := range beyond() {
		if got := Runs([]byte{1}, n); !slices.Equal(got, []int{most - 1}) {
			t.Errorf("Runs(01, %d): %v", n, got)
		}
		if got := Runs(full(most/8), n); len(got) != 0 {
			t.Errorf("Runs(%d): %v, beyond 2^16", n, got)
		}
	}
}

func TestP5_3LongestEdges(t *testing.T) {
	for _, x := range []struct {
		row           []byte
		n, at, length int
	}{
		{[]byte{5}, 8, 3, 5}, {[]byte{5}, 4, 1, 1}, {[]byte{5}, 5, 3, 2}, // of several the first
		{[]byte{0xc6}, 8, 3, 3}, {[]byte{0x24}, 8, 0, 2}, {[]byte{0x48}, 8, 0, 3},
		{nil, 0, 0, 0}, {nil, -1, 0, 0}, {nil, math.MinInt, 0, 0}, {nil, 9, 0, 9},
		{full(2), 16, 0, 0}, {full(2), 17, 16, 1}, {[]byte{1}, 1, 0, 0}, {[]byte{0x80}, 8, 0, 7},
	} {
		if at, length := Longest(x.row, x.n); at != x.at || length != x.length {
			t.Errorf("Longest(%x, %d): %d, %d; want %d, %d", x.row, x.n, at, length, x.at, x.length)
		}
	}
	for _, n := range beyond() {
		if at, length := Longest([]byte{1}, n); at != 1 || length != most-1 {
			t.Errorf("Longest(01, %d): %d, %d", n, at, length)
		}
		if at, length := Longest(full(most/8), n); at != 0 || length != 0 {
			t.Errorf("Longest(%d): %d, %d, beyond 2^16", n, at, length)
		}
	}
}

// A range over the stretches may be left at any of them.
func TestP5_3StretchesMayBeLeft(t *testing.T) {
	for many := 1; many <= 4; many++ {
		var begins []int
		for begin := range stretches([]byte{0x55}, 8) {
			begins = append(begins, begin)
			if len(begins) == many {
				break
			}
		}
		if !slices.Equal(begins, []int{1, 3, 5, 7}[:many]) {
			t.Fatal(begins)
		}
	}
}

func TestP5_4Apart(t *testing.T) {
	rows := some()
	for i, a := range rows {
		b := rows[(i*37+11)%len(rows)]
		for _, n := range numbers() {
			var want []int
			one, other := spell(a, clip(n)), spell(b, clip(n))
			for i := range one {
				if one[i] != other[i] {
					want = append(want, i)
				}
			}
			if got := Apart(a, b, n); !slices.Equal(got, want) {
				t.Fatalf("Apart(%x, %x, %d): %v, want %v", a, b, n, got, want)
			}
		}
	}
}

func TestP5_4ApartEdges(t *testing.T) {
	for _, x := range []struct {
		a, b []byte
		n    int
		want []int
	}{
		{[]byte{5}, []byte{4}, 8, []int{0}}, {[]byte{5}, []byte{6}, 8, []int{0, 1}}, {[]byte{5}, []byte{6}, 1, []int{0}}, {[]byte{5}, []byte{5}, 8, nil},
		{[]byte{5}, nil, 8, []int{0, 2}}, {[]byte{}, []byte{0, 0x81}, 16, []int{8, 15}}, {[]byte{0, 0x81}, []byte{0}, 15, []int{8}}, // past an end: not set
		{nil, nil, math.MaxInt, nil}, {nil, full(1), 0, nil}, {nil, full(1), -1, nil}, {nil, full(1), math.MinInt, nil},
	} {
		if got := Apart(x.a, x.b, x.n); !slices.Equal(got, x.want) {
			t.Errorf("Apart(%x, %x, %d): %v, want %v", x.a, x.b, x.n, got, x.want)
		}
	}
	long := make([]byte, most/8+1)
	long[most/8-1], long[most/8] = 0x80, 0x01
	for _, n := range append(beyond(), most) {
		if got := Apart(long, nil, n); !slices.Equal(got, []int{most - 1}) {
			t.Errorf("Apart(%d): %v", n, got)
		}
	}
}

func TestP5_5NoOtherBitTurns(t *testing.T) {
	for _, row := range some() {
		was := spell(row, 8*len(row))
		for i := range 8 * len(row) {
			for on, x := range map[bool]string{true: "1", false: "0"} {
				got, e := With(row, i, on)
				if e != api.OK || len(got) != len(row) || Has(got, i) != on {
					t.Fatalf("With(%x, %d, %v): %x, %v", row, i, on, got, e)
				}
				if want := was[:i] + x + was[i+1:]; spell(got, len(want)) != want {
					t.Fatalf("With(%x, %d, %v): %x", row, i, on, got)
				}
			}
		}
	}
}

func TestP5_6RunsAndCountAreAll(t *testing.T) {
	for _, row := range append(some(), full(most/8+4), make([]byte, most/8+4)) {
		for _, n := range append(numbers(), most+1, math.MaxInt) {
			sum := 0
			for _, length := range Runs(row, n) {
				if length < 1 {
					t.Fatalf("a stretch of %d bits", length)
				}
				sum += length
			}
			if sum != clip(n)-Count(row, n) {
				t.Fatalf("%d bytes, %d bits: %d not set, %d set", len(row), n, sum, Count(row, n))
			}
		}
	}
}

func TestP5_7ApartThereAndBack(t *testing.T) {
	source := rand.New(rand.NewSource(7))
	for range 300 {
		length := source.Intn(6)
		a, b := make([]byte, length), make([]byte, length)
		source.Read(a)
		source.Read(b)
		n := source.Intn(8*length+1) - 1
		places := Apart(a, b, n)
		if !slices.Equal(places, Apart(b, a, n)) {
			t.Fatalf("Apart(%x, %x, %d) is another the other way round", a, b, n)
		}
		turned := a
		for _, i := range places {
			var e api.Errno
			if turned, e = With(turned, i, Has(b, i)); e != api.OK {
				t.Fatal(e)
			}
		}
		if left := Apart(turned, b, n); len(left) != 0 {
			t.Fatalf("%v are left", left)
		}
		for _, i := range Apart(turned, a, 8*length) {
			if !slices.Contains(places, i) {
				t.Fatalf("bit %d has turned", i)
			}
		}
	}
}

// Rows that are handed in stay as they were, with the room behind their ends,
// and answers are memory of their own.
func TestMemory(t *testing.T) {
	for _, row := range some() {
		whole := append(append([]byte{0xa1}, row...), 0xb1, 0xb2, 0xb3)
		was := bytes.Clone(whole)
		part := whole[1 : 1+len(row)]
		for i := -1; i <= 8*len(row); i++ {
			for _, on := range []bool{true, false} {
				got, _ := With(part, i, on)
				clear(got[:cap(got)])
			}
		}
		Has(part, 1)
		Count(part, 99)
		First(part, 99, 1)
		Longest(part, 99)
		for _, list := range [][]int{Runs(part, 99), Apart(part, part, 99), Apart(part, nil, 99)} {
			clear(list[:cap(list)])
		}
		if !bytes.Equal(whole, was) {
			t.Fatalf("%x, was %x", whole, was)
		}
		one, other := Runs(part, 99), Runs(part, 99)
		clear(one[:cap(one)])
		if !slices.Equal(other, lengths(row, 99)) {
			t.Fatal("two answers share memory")
		}
	}
}
