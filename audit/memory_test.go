package audit

import (
	"bytes"
	"slices"
	"testing"

	"bollard/api"
)

// roomy is an image whose lists have room behind their ends, with bytes there.
func roomy(image [][]byte) [][]byte {
	out := make([][]byte, 0, len(image)+3)
	for _, b := range image {
		wide := append(make([]byte, 0, 200), b...)
		copy(wide[len(b):200], bytes.Repeat([]byte{0xcc}, 200))
		out = append(out, wide)
	}
	for i := len(image); i < len(image)+3; i++ {
		out[:cap(out)][i] = bytes.Repeat([]byte{0xdd}, 128)
	}
	return out
}

// TestP26MemoryStays: what is handed in stays as it was, the room behind each
// list's end included.
func TestP26MemoryStays(t *testing.T) {
	all := append(faults(), fault{"none", api.OK, func(*world) {}}, fault{"two names", api.ErrAudit, func(w *world) { w.again(2, 7, "x") }})
	for _, f := range all {
		w := town()
		own, e := Tree(w.image)
		answers(t, api.OK, e)
		f.do(w)
		image := roomy(w.image)
		spare := image[:cap(image)]
		var was [][]byte
		for _, b := range spare {
			was = append(was, slices.Clone(b[:cap(b)]))
		}
		x, _ := Tree(image)
		Held(image, own)
		Count(image)
		Gauges(image)
		Print(image)
		x.Do(api.Call{Kind: api.CallOpen, Path: "/a"})
		x.Do(api.Call{Kind: api.CallWrite, Bytes: bytes.Repeat([]byte("z"), 400)})
		for i, b := range spare {
			if !bytes.Equal(b[:cap(b)], was[i]) {
				t.Fatal(f.name, "block", i, "has changed")
			}
		}
		if again, e := Tree(town().image); e != api.OK || !again.Same(own) {
			t.Fatal(f.name, "the tree has changed")
		}
	}
}

// TestP26MemoryOwn: an answer does not change when the image or another answer
// is overwritten.
func TestP26MemoryOwn(t *testing.T) {
	w := town()
	x, _ := Tree(w.image)
	gauges, _ := Gauges(w.image)
	lines, _ := Print(w.image)
	otherTree, _ := Tree(w.image)
	otherGauges, _ := Gauges(w.image)
	otherLines, _ := Print(w.image)
	for _, b := range w.image {
		clear(b[:cap(b)])
	}
	otherTree.Do(api.Call{Kind: api.CallUnlink, Path: "/a"})
	otherTree.Do(api.Call{Kind: api.CallOpen, Path: "/f"})
	otherTree.Do(api.Call{Kind: api.CallTruncate})
	clear(otherGauges[:cap(otherGauges)])
	clear(otherLines[:cap(otherLines)])
	w = town()
	all, _ := w.things()
	isTree(t, x, all)
	if !slices.Equal(gauges, w.gauges()) || !slices.Equal(lines, w.report()) {
		t.Fatal(gauges, lines)
	}
}
