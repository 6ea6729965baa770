package fore

import (
	"math/rand"
	"slices"
	"strconv"
	"testing"

	"bollard/api"
	"bollard/disk"
	"bollard/mkfs"
	"bollard/scan"
	"bollard/vfs"
)

// treeOf is all that users can come to, by path: what a file has, and how many
// links all have.
func treeOf(t *testing.T, image [][]byte) map[string]string {
	t.Helper()
	d, e := disk.Of(image)
	answers(t, api.OK, e)
	f, e := vfs.Mount(d)
	answers(t, api.OK, e)
	out := map[string]string{}
	var visit func(path string, depth int)
	visit = func(path string, depth int) {
		at := path
		if at == "" {
			at = "/"
		}
		a, e := f.Do(api.Call{Kind: api.CallStat, Path: at})
		answers(t, api.OK, e)
		if a.Mode == api.ModeFile {
			o, e := f.Do(api.Call{Kind: api.CallOpen, Path: at})
			answers(t, api.OK, e)
			b, e := f.Do(api.Call{Kind: api.CallRead, FD: o.N, N: api.MaxFile})
			answers(t, api.OK, e)
			_, e = f.Do(api.Call{Kind: api.CallClose, FD: o.N})
			answers(t, api.OK, e)
			out[path] = "file " + strconv.Itoa(a.Size) + string(b.Bytes)
			return
		}
		out[path] = "dir"
		l, e := f.Do(api.Call{Kind: api.CallList, Path: at})
		answers(t, api.OK, e)
		for _, name := range l.Names {
			if depth < 6 { // a directory with two names may stand in itself
				visit(path+"/"+name, depth+1)
			}
		}
	}
	visit("", 0)
	return out
}

// anyCrash is an image that a crash left of a volume that was used.
func anyCrash(t *testing.T, seed int64) [][]byte {
	t.Helper()
	source := rand.New(rand.NewSource(seed))
	image, e := mkfs.Make([]api.Geom{wide, {Groups: 1, Blocks: 48, Inodes: 16}}[seed%2])
	answers(t, api.OK, e)
	d, e := disk.Of(image)
	answers(t, api.OK, e)
	f, e := vfs.Mount(d)
	answers(t, api.OK, e)
	path := func() string {
		out := ""
		for range 1 + source.Intn(2) {
			out += "/" + string(rune('a'+source.Intn(4)))
		}
		return out
	}
	for range 150 {
		switch source.Intn(3) {
		case 0:
			c := api.Call{Kind: 1 + source.Intn(api.CallLink), FD: source.Intn(3), Off: source.Intn(800), N: source.Intn(800), Path: path(), Other: path(), Bytes: make([]byte, source.Intn(300))}
			source.Read(c.Bytes)
			f.Do(c)
		case 1:
			if l := f.Volume().Ready(); len(l) > 0 {
				answers(t, api.OK, f.Volume().Write(l[source.Intn(len(l))]))
			}
		case 2:
			if n := len(f.Volume().Way()); n > 0 {
				answers(t, api.OK, f.Volume().Complete(source.Intn(n), true))
			}
		}
	}
	return d.Image()
}

// TestP22_4_5Crashes: what a crash left is accepted and clean behind Repair, and
// all names lead to what they led to.
func TestP22_4_5Crashes(t *testing.T) {
	kinds := [3]int{}
	for seed := range int64(150) {
		image := anyCrash(t, seed)
		f, e := Check(image)
		answers(t, api.OK, e)
		kinds[0] += len(f.Blocks)
		kinds[1] += len(f.Inodes)
		kinds[2] += len(f.Links)
		got, e := Repair(image)
		answers(t, api.OK, e)
		answers(t, api.OK, scan.Accept(got))
		is, e := Check(got)
		if e != api.OK || !Clean(is) {
			t.Fatal(seed, is, e)
		}
		if Clean(f) != sameImage(image, got) {
			t.Fatal(seed, f)
		}
		a, b := treeOf(t, image), treeOf(t, got)
		if len(a) != len(b) {
			t.Fatal(seed, len(a), len(b))
		}
		for path, has := range a {
			if b[path] != has {
				t.Fatal(seed, path)
			}
		}
		onlyFreed(t, image, got, f)
	}
	if slices.Min(kinds[:]) < 10 {
		t.Fatal(kinds)
	}
}

// onlyFreed: but for headers and inodes, no block has turned.
func onlyFreed(t *testing.T, was, is [][]byte, f api.Found) {
	t.Helper()
	g, e := scan.Geom(was)
	answers(t, api.OK, e)
	may := map[int]int{}
	for _, ino := range f.Inodes {
		may[ino/g.Inodes*g.Blocks+2+ino%g.Inodes/4]++
	}
	for _, l := range f.Links {
		may[l.Ino/g.Inodes*g.Blocks+2+l.Ino%g.Inodes/4]++
	}
	for b := range was {
		if b%g.Blocks != 1 && may[b] == 0 && !slices.Equal(was[b], is[b]) {
			t.Fatal("block", b, "has turned")
		}
	}
	reach, _ := scan.Reach(was)
	again, _ := scan.Reach(is)
	if !slices.Equal(reach, again) {
		t.Fatal(reach, again)
	}
}

// TestP22_6AnyBytes: Check and Repair end at any bytes, and agree with scan.
func TestP22_6AnyBytes(t *testing.T) {
	good := town(t)
	refused, taken := 0, 0
	for seed := range int64(1500) {
		source := rand.New(rand.NewSource(seed))
		image := copied(good)
		if seed%50 == 0 {
			image = make([][]byte, source.Intn(70))
			for i := range image {
				image[i] = make([]byte, 128)
				source.Read(image[i])
			}
		}
		for range 1 + source.Intn(3) {
			if len(image) == 0 {
				break
			}
			b := []int{1, 2, 3, 4, 33, 34, source.Intn(len(image))}[source.Intn(7)] % len(image)
			image[b][source.Intn(128)] ^= byte(1 << source.Intn(8))
		}
		want := scan.Accept(image)
		f, e := Check(image)
		got, why := Repair(image)
		if e != want || why != want {
			t.Fatal(seed, e, why, want)
		}
		if want != api.OK {
			refused++
			if !Clean(f) || len(got) != 0 {
				t.Fatal(seed, f, len(got))
			}
			continue
		}
		taken++
		if f, e := Check(got); e != api.OK || !Clean(f) {
			t.Fatal(seed, f, e)
		}
	}
	if refused < 100 || taken < 100 {
		t.Fatal(refused, taken)
	}
}
