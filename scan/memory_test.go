package scan

import (
	"bytes"
	"reflect"
	"slices"
	"testing"

	"bollard/api"
)

// TestP18MemoryStays: what is handed in stays as it was, the room behind each
// list's end included.
func TestP18MemoryStays(t *testing.T) {
	for _, hurt := range append([]fault{{"none", api.OK, func(*world) {}}}, faults()...) {
		w := town()
		hurt.do(w)
		roomy := make([][]byte, 0, len(w.image)+3)
		for _, b := range w.image {
			wide := append(make([]byte, 0, 200), b...)
			copy(wide[len(b):200], bytes.Repeat([]byte{0xcc}, 200))
			roomy = append(roomy, wide)
		}
		spare := roomy[:cap(roomy)]
		for i := len(roomy); i < len(spare); i++ {
			spare[i] = bytes.Repeat([]byte{0xdd}, 128)
		}
		var was [][]byte
		for _, b := range spare {
			was = append(was, slices.Clone(b[:cap(b)]))
		}
		tell(t, roomy)
		for i, b := range spare {
			if !bytes.Equal(b[:cap(b)], was[i]) {
				t.Fatal(hurt.name, "block", i, "has changed")
			}
		}
	}
}

// TestP18MemoryOwn: an answer does not change when the image or another answer
// is overwritten.
func TestP18MemoryOwn(t *testing.T) {
	w := town()
	w.block(w.take(), true)
	w.links(3, 9)
	w.links(2, 9)
	want := tell(t, w.copyOf().image)
	got, other := tell(t, w.image), tell(t, w.image)
	for _, b := range w.image {
		clear(b[:cap(b)])
	}
	scribble(&other)
	if !reflect.DeepEqual(got, want) {
		t.Fatal(got, want)
	}
	found := got.leaks
	clear(found.Blocks[:cap(found.Blocks)])
	if !slices.Equal(found.Inodes, want.leaks.Inodes) || !slices.Equal(found.Links, want.leaks.Links) || !slices.Equal(got.reach, want.reach) {
		t.Fatal("lists of answers share memory")
	}
	clear(found.Inodes[:cap(found.Inodes)])
	clear(found.Links[:cap(found.Links)])
	if !slices.Equal(got.reach, want.reach) || !slices.Equal(got.links, want.links) {
		t.Fatal("lists of answers share memory")
	}
}

func scribble(a *all) {
	clear(a.claims[:cap(a.claims)])
	clear(a.reach[:cap(a.reach)])
	clear(a.links[:cap(a.links)])
	clear(a.leaks.Blocks[:cap(a.leaks.Blocks)])
	clear(a.leaks.Inodes[:cap(a.leaks.Inodes)])
	clear(a.leaks.Links[:cap(a.leaks.Links)])
}
