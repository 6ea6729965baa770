package names

import (
	"math/rand"
	"reflect"
	"testing"

	"bollard/api"
	"bollard/volume"
)

// tangled has directories and files that may be, but share blocks, lack some,
// and name whatever.
func tangled(source *rand.Rand) *world {
	w := newWorld(three)
	names := []string{".", "..", "a", "b", "c", "d", "e", "f", "g"}
	var blocks []int
	for range 9 {
		var page []api.Entry
		for _, k := range source.Perm(len(names))[:source.Intn(9)] {
			page = append(page, entry(1+source.Intn(13), names[k]))
		}
		blocks = append(blocks, w.dir(2, page)...)
	}
	for ino := range 12 {
		d := api.Dinode{Mode: 1 + (source.Intn(5)+3)/4, Links: 1, Size: source.Intn(6) * 128}
		for i := range d.Direct {
			if source.Intn(8) > 0 {
				d.Direct[i] = blocks[source.Intn(len(blocks))]
			}
		}
		if source.Intn(3) == 0 {
			d.Single = source.Intn(26)
		}
		w.put(ino, d)
	}
	if source.Intn(3) == 0 {
		w.image[blocks[source.Intn(9)]][source.Intn(128)] ^= byte(1 + source.Intn(255))
	}
	return w
}

// TestP16AnyBytes: whatever directories are, calls end, and one that has an
// error has changed nothing.
func TestP16AnyBytes(t *testing.T) {
	worked, refused := 0, 0
	for seed := range int64(400) {
		source := rand.New(rand.NewSource(seed))
		d, v := opened(t, tangled(source).image)
		for range 8 {
			was := stateOf(d, v)
			zero, e := anyCall(source, v)()
			if e == api.OK {
				worked++
				continue
			}
			refused++
			if is := stateOf(d, v); !zero || !reflect.DeepEqual(is, was) {
				t.Fatal("a call that has an error tells more, or has changed the volume", e)
			}
		}
	}
	if worked < 100 || refused < 100 {
		t.Fatal("these are no wild directories:", worked, refused)
	}
}

func anyCall(source *rand.Rand, v *volume.Volume) ask {
	dir, other := source.Intn(13), source.Intn(13)
	name := []string{"a", "b", "..", "new", "x"}[source.Intn(5)]
	calls := []ask{
		askLookup(v, three, dir, name), askWalk(v, three, "/a/b/c/"+name), askWalk(v, three, "/a/"+name), askBelow(v, three, dir, other),
		askAdd(v, three, dir, entry(1+other, name)), askRemove(v, three, dir, name), askSet(v, three, dir, name, other),
	}
	return calls[source.Intn(len(calls))]
}
