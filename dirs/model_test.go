package dirs

import (
	"bytes"
	"math/rand"
	"slices"
	"testing"

	"bollard/api"
	"bollard/layout"
)

// may tells by the chapter's definition whether a block may be, and its
// entries.
func may(b []byte) ([]api.Entry, bool) {
	if len(b) != api.Size {
		return nil, false
	}
	var l []api.Entry
	for piece := range slices.Chunk(b, api.EntryLen) {
		e, why := layout.DecodeEntry(piece)
		if why != api.OK {
			return nil, false
		}
		l = append(l, e)
	}
	for a := range l {
		for b := range a {
			if l[a].Ino != 0 && l[b].Ino != 0 && l[a].Name == l[b].Name {
				return nil, false
			}
		}
	}
	return l, true
}

// TestP12_1EachByteTurned: of blocks with one byte turned just those that may
// be are read, and no other block is told of them.
func TestP12_1EachByteTurned(t *testing.T) {
	for _, l := range lists() {
		for at := range api.Size {
			for x := 1; x < 256; x++ {
				b := block(l...)
				b[at] ^= byte(x)
				want, ok := may(b)
				got, why := Decode(b)
				if ok != (why == api.OK) || !slices.Equal(got, want) {
					t.Fatalf("%x: %v, %v; want %v, %t", b, got, why, want, ok)
				}
				if again, e := Encode(got); ok && (e != api.OK || !bytes.Equal(again, b)) {
					t.Fatalf("%x: again %x, %v", b, again, e)
				}
			}
		}
	}
}

// TestP12_5Run puts entries in and takes them out by chance, and holds what is
// told against a list of them.
func TestP12_5Run(t *testing.T) {
	names := []string{".", "..", "a", "b", "c", "dd", "abcdefghijklm", "e", "f", "g", "", "/", "abcdefghijklmn"}
	for seed := range int64(100) {
		source := rand.New(rand.NewSource(seed))
		l := make([]api.Entry, api.Entries)
		b := make([]byte, api.Size)
		for range 100 {
			name := names[source.Intn(len(names))]
			at := slices.IndexFunc(l, func(e api.Entry) bool { return e.Ino != 0 && e.Name == name })
			free := slices.Index(l, api.Entry{})
			var next []byte
			var told int
			var why, want api.Errno
			if source.Intn(5) < 3 {
				e := entry(source.Intn(514), name)
				next, told, why = With(b, e)
				_, bad := layout.EncodeEntry(e)
				switch {
				case bad != api.OK || e.Ino == 0:
					want, at = api.ErrArg, 0
				case at >= 0:
					want, at = api.ErrExists, 0
				case free < 0:
					want, at = api.ErrSlot, 0
				default:
					l[free], at = e, free
				}
			} else {
				next, told, why = Without(b, name)
				if at < 0 {
					want, at = api.ErrAbsent, 0
				} else {
					l[at] = api.Entry{}
				}
			}
			if why != want || told != at || (len(next) == 0) != (why != api.OK) {
				t.Fatalf("%v: %x, %d, %v; want %d, %v", l, next, told, why, at, want)
			}
			if why == api.OK {
				b = next
			}
			if got, why := Decode(b); why != api.OK || !slices.Equal(got, l) {
				t.Fatalf("%v, %v; want %v", got, why, l)
			}
		}
	}
}
