package dirs

import (
	"bytes"
	"math"
	"slices"
	"strings"
	"testing"

	"bollard/api"
)

// raw is an entry's 16 bytes as chapter 3 tells them, whether it may be or not.
func raw(ino, length int, name string) []byte {
	b := append([]byte{byte(ino), byte(ino >> 8), byte(length)}, name...)
	return append(b, make([]byte, api.EntryLen-len(b))...)
}

// block is the bytes of entries, with noughts behind, whether they may be or
// not.
func block(l ...api.Entry) []byte {
	var b []byte
	for _, e := range l {
		b = append(b, raw(e.Ino, len(e.Name), e.Name)...)
	}
	return append(b, make([]byte, api.Size-len(b))...)
}

// entry is one of a name.
func entry(ino int, name string) api.Entry {
	return api.Entry{Ino: ino, Name: name}
}

// whole is a list of entries with empty ones behind, eight in all.
func whole(l []api.Entry) []api.Entry {
	return append(slices.Clone(l), make([]api.Entry, api.Entries-len(l))...)
}

// lists are entries that may stand in one block.
func lists() [][]api.Entry {
	return [][]api.Entry{
		nil,
		{},
		{{}},
		{{}, {}, {}, {}, {}, {}, {}, {}},
		{entry(2, "."), entry(2, "..")},
		{entry(2, "."), {}, entry(5, "x")},
		{entry(1, "a"), entry(1, "b"), entry(1, "A"), entry(1, "aa"), entry(1, "..."), entry(1, "."), entry(1, "..")},
		{{}, {}, {}, {}, {}, {}, {}, entry(511, "abcdefghijklm")},
		{entry(511, "abcdefghijklm"), entry(511, "abcdefghijkl"), entry(3, "bbcdefghijklm"), entry(4, "!"), entry(5, "~"), entry(6, ".a"), entry(256, "a."), entry(2, "..")},
	}
}

// wrongs are entries that may not be.
func wrongs() []api.Entry {
	var l []api.Entry
	for _, ino := range []int{math.MinInt, -1, 0, 512, 1 << 16, 1<<16 + 1, 1 << 32, math.MaxInt} {
		l = append(l, entry(ino, "w"), entry(ino, "."))
	}
	for _, name := range []string{"", "a/b", "/", " ", "abcdefghijklmn", "\x00", "a\x00", "\x7f", "é", strings.Repeat("n", 1<<16)} {
		l = append(l, entry(1, name), entry(511, name))
	}
	return l
}

// refused are blocks that may not be.
func refused() [][]byte {
	good := block(entry(2, "."), entry(2, ".."), api.Entry{}, entry(7, "x"))
	l := [][]byte{nil, {}, good[:1], good[:16], good[:112], good[:127], append(slices.Clone(good), 0), append(slices.Clone(good), good...), make([]byte, 1<<16)}
	for at := range api.Entries {
		for _, e := range [][]byte{
			raw(0, 1, "a"), raw(0, 0, "a"), raw(0, 1, ""), raw(1, 0, ""), raw(512, 1, "a"), raw(65535, 1, "a"), raw(1, 2, "a"), raw(1, 1, "ab"),
			raw(1, 14, "abcdefghijklm"), raw(1, 255, "a"), raw(1, 3, "a/b"), raw(1, 1, " "), raw(1, 1, "\xff"), raw(1, 1, "."+"\x00."),
		} {
			l = append(l, place(block(), at, e), place(good, at, e))
		}
	}
	for a := range api.Entries {
		for b := range a { // one name twice, of one inode and of two
			for _, name := range []string{"a", ".", "..", "abcdefghijklm"} {
				l = append(l,
					place(place(block(), a, raw(5, len(name), name)), b, raw(5, len(name), name)),
					place(place(block(), a, raw(5, len(name), name)), b, raw(6, len(name), name)))
			}
		}
	}
	return l
}

// place is a block with other bytes for one entry.
func place(b []byte, at int, e []byte) []byte {
	b = slices.Clone(b)
	copy(b[at*api.EntryLen:], e)
	return b
}

func TestP12_1Decode(t *testing.T) {
	for _, l := range lists() {
		if got, e := Decode(block(l...)); !slices.Equal(got, whole(l)) || e != api.OK {
			t.Fatalf("%v: %v, %v", l, got, e)
		}
	}
}

func TestP12_1Encode(t *testing.T) {
	for _, l := range lists() {
		if b, e := Encode(l); !bytes.Equal(b, block(l...)) || e != api.OK {
			t.Fatalf("%v: %x, %v", l, b, e)
		}
		if b, e := Encode(whole(l)); !bytes.Equal(b, block(l...)) || e != api.OK {
			t.Fatalf("%v and empty ones: %x, %v", l, b, e)
		}
	}
}

func TestP12_1DecodeRefuses(t *testing.T) {
	for _, b := range refused() {
		if l, e := Decode(b); len(l) != 0 || e != api.ErrForm {
			t.Fatalf("%x: %v, %v", b, l, e)
		}
	}
}

func TestP12_1EncodeRefuses(t *testing.T) {
	refuses := func(l []api.Entry) {
		t.Helper()
		if b, e := Encode(l); len(b) != 0 || e != api.ErrArg {
			t.Fatalf("%v: %x, %v", l, b, e)
		}
	}
	refuses(make([]api.Entry, api.Entries+1)) // empty ones count
	refuses(append(whole(nil), entry(3, "a")))
	refuses(make([]api.Entry, 1<<16))
	for at := range api.Entries {
		for _, e := range wrongs() {
			l := whole(nil)
			l[at] = e
			refuses(l)
			refuses(l[:at+1])
		}
		for b := range at {
			for _, name := range []string{"a", ".", "..", "abcdefghijklm"} {
				l := whole(nil)
				l[at], l[b] = entry(4, name), entry(4, name)
				refuses(l)
				l[at].Ino = 5
				refuses(l)
			}
		}
	}
}

// TestP12_2None: of a block that may not be there is nothing, whatever is
// asked for.
func TestP12_2None(t *testing.T) {
	for _, b := range refused() {
		for _, name := range []string{"", ".", "..", "a", "x", "abcdefghijklm"} {
			if at, ino, ok := Find(b, name); at != 0 || ino != 0 || ok {
				t.Fatalf("%x: %q at %d: %d", b, name, at, ino)
			}
			if c, at, e := Without(b, name); len(c) != 0 || at != 0 || e != api.ErrForm {
				t.Fatalf("%x without %q: %x, %d, %v", b, name, c, at, e)
			}
		}
		if at, ok := Free(b); at != 0 || ok {
			t.Fatalf("%x: free is %d", b, at)
		}
		if names := Names(b); len(names) != 0 {
			t.Fatalf("%x: %q", b, names)
		}
		for _, e := range append(wrongs(), api.Entry{}, entry(9, "new"), entry(9, "x")) { // ErrForm comes first
			if c, at, e := With(b, e); len(c) != 0 || at != 0 || e != api.ErrForm {
				t.Fatalf("%x: %x, %d, %v", b, c, at, e)
			}
		}
	}
}

func TestP12_2Find(t *testing.T) {
	for _, l := range lists() {
		b := block(l...)
		for at, e := range l {
			if e.Ino == 0 {
				continue
			}
			if got, ino, ok := Find(b, e.Name); got != at || ino != e.Ino || !ok {
				t.Fatalf("%v: %q at %d: %d, %t", l, e.Name, got, ino, ok)
			}
		}
		// Without a name there is no entry, though empty ones have none.
		for _, name := range []string{"", "q", "abcdefghijk", "abcdefghijklmn", "b\x00", "/", "x/", " ", strings.Repeat("a", 1<<16)} {
			if at, ino, ok := Find(b, name); at != 0 || ino != 0 || ok {
				t.Fatalf("%v: %q at %d: %d, %t", l, name, at, ino, ok)
			}
		}
	}
}

func TestP12_2Free(t *testing.T) {
	for _, l := range lists() {
		want := slices.Index(whole(l), api.Entry{})
		if at, ok := Free(block(l...)); ok != (want >= 0) || at != max(want, 0) {
			t.Fatalf("%v: %d, %t", l, at, ok)
		}
	}
	l := lists()[len(lists())-1]
	for at := range l {
		some := slices.Clone(l)
		some[at] = api.Entry{}
		if got, ok := Free(block(some...)); got != at || !ok {
			t.Fatalf("%v: %d, %t", some, got, ok)
		}
	}
}

func TestP12_2Names(t *testing.T) {
	for _, l := range lists() {
		var want []string
		for _, e := range l {
			if e.Name != "" {
				want = append(want, e.Name)
			}
		}
		if got := Names(block(l...)); !slices.Equal(got, want) {
			t.Fatalf("%v: %q", l, got)
		}
	}
	if got := Names(block(api.Entry{}, entry(3, "b"), api.Entry{}, entry(4, "a"), entry(2, "."))); !slices.Equal(got, []string{"b", "a", "."}) {
		t.Fatalf("%q", got)
	}
}

func TestP12_3With(t *testing.T) {
	for _, l := range lists() {
		for _, e := range []api.Entry{entry(1, "new"), entry(511, "nnnnnnnnnnnnn"), entry(9, "!~"), entry(9, "....")} {
			b, at, why := With(block(l...), e)
			want := whole(l)
			first := slices.Index(want, api.Entry{})
			if first < 0 {
				if len(b) != 0 || at != 0 || why != api.ErrSlot {
					t.Fatalf("%v: %x, %d, %v", l, b, at, why)
				}
				continue
			}
			want[first] = e
			if !bytes.Equal(b, block(want...)) || at != first || why != api.OK {
				t.Fatalf("%v with %v: %x, %d, %v", l, e, b, at, why)
			}
		}
	}
	for at, name := range []string{".", ".."} { // these two are entries as others are
		l := []api.Entry{entry(4, ".."), entry(4, "a")}[at:]
		if b, got, why := With(block(l...), entry(3, name)); got != len(l) || why != api.OK || !bytes.Equal(b, block(append(l, entry(3, name))...)) {
			t.Fatal(l, got, why)
		}
	}
}

func TestP12_3WithRefuses(t *testing.T) {
	refuses := func(want api.Errno, b []byte, e api.Entry) {
		t.Helper()
		if c, at, why := With(b, e); len(c) != 0 || at != 0 || why != want {
			t.Fatalf("%x with %v: %x, %d, %v; want %v", b, e, c, at, why, want)
		}
	}
	for _, l := range lists() {
		b := block(l...)
		for _, e := range append(wrongs(), api.Entry{}) { // ahead of ErrExists and ErrSlot
			refuses(api.ErrArg, b, e)
		}
		for _, e := range l {
			if e.Ino == 0 {
				continue
			}
			refuses(api.ErrExists, b, e) // ahead of ErrSlot
			refuses(api.ErrExists, b, entry(77, e.Name))
			refuses(api.ErrArg, b, entry(0, e.Name))
			refuses(api.ErrArg, b, entry(512, e.Name))
		}
	}
}

func TestP12_3Without(t *testing.T) {
	for _, l := range lists() {
		b := block(l...)
		for at, e := range l {
			if e.Ino == 0 {
				continue
			}
			want := slices.Clone(l)
			want[at] = api.Entry{}
			if c, got, why := Without(b, e.Name); !bytes.Equal(c, block(want...)) || got != at || why != api.OK {
				t.Fatalf("%v without %q: %x, %d, %v", l, e.Name, c, got, why)
			}
		}
		for _, name := range []string{"", "q", "b\x00", "/", "a/b", "abcdefghijklmn", strings.Repeat("a", 1<<16)} {
			if c, got, why := Without(b, name); len(c) != 0 || got != 0 || why != api.ErrAbsent {
				t.Fatalf("%v without %q: %x, %d, %v", l, name, c, got, why)
			}
		}
	}
}

// TestP12_5Back: Without of With is the block; so is With of Without, if the
// entry stood at the first place that is empty then.
func TestP12_5Back(t *testing.T) {
	for _, l := range lists() {
		b := block(l...)
		c, put, why := With(b, entry(44, "new"))
		if why == api.OK {
			if back, took, why := Without(c, "new"); !bytes.Equal(back, b) || took != put || why != api.OK {
				t.Fatalf("%v: %x, %d, %v", l, back, took, why)
			}
			if _, ino, ok := Find(c, "new"); ino != 44 || !ok {
				t.Fatalf("%v: it is not there", l)
			}
		}
		for at, e := range l {
			if e.Ino == 0 || slices.Contains(l[:at], api.Entry{}) {
				continue
			}
			c, _, _ := Without(b, e.Name)
			if _, _, ok := Find(c, e.Name); ok {
				t.Fatalf("%v: %q is still there", l, e.Name)
			}
			if back, put, why := With(c, e); !bytes.Equal(back, b) || put != at || why != api.OK {
				t.Fatalf("%v: %x, %d, %v", l, back, put, why)
			}
		}
	}
}

func TestP12_6ThereAndBack(t *testing.T) {
	for _, l := range lists() {
		b, _ := Encode(l)
		got, why := Decode(b)
		if !slices.Equal(got, whole(l)) || why != api.OK {
			t.Fatalf("%v: %v, %v", l, got, why)
		}
		if again, why := Encode(got); !bytes.Equal(again, b) || why != api.OK {
			t.Fatalf("%v: %x, %v", l, again, why)
		}
	}
}

// scribble overwrites a list, and the room behind its end.
func scribble[T any](l []T, with T) {
	l = l[:cap(l)]
	for i := range l {
		l[i] = with
	}
}

// TestMemory: what is handed in stays as it was, the room behind its end too,
// and no answer shares memory with it or with another one.
func TestMemory(t *testing.T) {
	list := []api.Entry{entry(2, "."), {}, entry(5, "x")}
	want := block(list...)
	room := append(slices.Clone(want), 0xaa, 0xbb, 0xcc)
	b := room[:api.Size]
	for range 2 {
		decoded, _ := Decode(b)
		names := Names(b)
		more, _, _ := With(b, entry(6, "y"))
		less, _, _ := Without(b, "x")
		encoded, _ := Encode(list[:3:3])
		scribble(decoded, entry(99, "scribble"))
		scribble(names, "scribble")
		scribble(more, 0x99)
		scribble(less, 0x99)
		scribble(encoded, 0x99)
		if !bytes.Equal(room, append(slices.Clone(want), 0xaa, 0xbb, 0xcc)) {
			t.Fatalf("what was handed in: %x", room)
		}
		if !slices.Equal(list, []api.Entry{entry(2, "."), {}, entry(5, "x")}) {
			t.Fatal(list)
		}
	}
	spare := append(whole(list), entry(88, "behind"))
	if _, e := Encode(spare[:3]); e != api.OK || spare[3] != (api.Entry{}) || spare[8] != entry(88, "behind") {
		t.Fatal(e, spare)
	}
	first, _ := Decode(b)
	names := Names(b)
	scribble(room, 0)
	if !slices.Equal(first, whole(list)) || !slices.Equal(names, []string{".", "x"}) {
		t.Fatal("what was handed in is kept")
	}
}
