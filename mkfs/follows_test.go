package mkfs

import (
	"testing"

	"bollard/alloc"
	"bollard/api"
	"bollard/names"
	"bollard/scan"
)

// TestP17_3Accepted: of all geometries, and without leaks.
func TestP17_3Accepted(t *testing.T) {
	everyGeom(func(g api.Geom) {
		image, _ := Make(g)
		if e := scan.Accept(image); e != api.OK {
			t.Fatalf("%+v: %v", g, e)
		}
		f, e := scan.Leaks(image)
		if e != api.OK || len(f.Blocks)+len(f.Inodes)+len(f.Links) != 0 {
			t.Fatalf("%+v: %+v, %v", g, f, e)
		}
	})
}

// TestP17_3Usable: the layers below find in it what their chapters tell of a
// new volume.
func TestP17_3Usable(t *testing.T) {
	g := api.Geom{Groups: 1, Blocks: 32, Inodes: 8}
	image, _ := Make(g)
	v, g, e := Mount(diskOf(t, image))
	if e != api.OK {
		t.Fatal(e)
	}
	if up, e := names.Lookup(v, g, api.Root, ".."); up != api.Root || e != api.OK {
		t.Fatal(up, e)
	}
	if b, _, e := alloc.Block(v, g, 0, nil); b != 5 || e != api.OK {
		t.Fatal(b, e)
	}
	if ino, _, e := alloc.Inode(v, g, 0, false); ino != 3 || e != api.OK {
		t.Fatal(ino, e)
	}
}
