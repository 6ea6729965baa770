package file

import (
	"math/rand"
	"reflect"
	"testing"

	"bollard/api"
	"bollard/volume"
)

// tangled is a book whose inodes may be, but lead anywhere: to blocks that are
// no data, that the volume has not, to one block twice, to indirect blocks that
// can't be, and to each other's.
func tangled(source *rand.Rand) *book {
	k := newBook(small)
	anywhere := func() int { return source.Intn(27) * source.Intn(2) }
	for b := range k.now {
		if b%8 >= 3 && source.Intn(3) > 0 {
			clear(k.now[b])
			for range 20 {
				k.now[b][2*source.Intn(64)] = byte(anywhere())
			}
		}
		if b%8 == 1 && source.Intn(4) > 0 {
			k.now[b][blocksAt] = byte(source.Intn(256))
		}
	}
	for ino := range 12 {
		d := api.Dinode{Mode: api.ModeFile, Size: source.Intn(api.MaxFile) >> source.Intn(16), Single: anywhere(), Double: anywhere()}
		for i := range d.Direct {
			d.Direct[i] = anywhere()
		}
		k.put(ino, d)
	}
	return k
}

// TestP15AnyBytes: whatever inodes lead to, calls end, and one that has an
// error has changed nothing.
func TestP15AnyBytes(t *testing.T) {
	worked, refused := 0, 0
	for seed := range int64(400) {
		source := rand.New(rand.NewSource(seed))
		d, v := open(t, tangled(source).now)
		for range 8 {
			ino, place, n := source.Intn(12), source.Intn(api.MaxFile)>>source.Intn(16), source.Intn(600)
			calls := []func(v *volume.Volume) api.Errno{
				func(v *volume.Volume) api.Errno {
					b, e := Read(v, small, ino, place, n)
					if len(b) > n || e != api.OK && len(b) > 0 {
						t.Fatal(len(b), e)
					}
					return e
				},
				func(v *volume.Volume) api.Errno {
					ids, e := Write(v, small, ino, place, letters(n))
					if e != api.OK && len(ids) > 0 {
						t.Fatal(ids, e)
					}
					return e
				},
				func(v *volume.Volume) api.Errno {
					ids, e := Truncate(v, small, ino, place)
					if e != api.OK && len(ids) > 0 {
						t.Fatal(ids, e)
					}
					return e
				},
			}
			was := stateOf(d, v)
			if calls[source.Intn(3)](v) == api.OK {
				worked++
				continue
			}
			refused++
			if is := stateOf(d, v); !reflect.DeepEqual(is, was) {
				t.Fatal("a call that has an error has changed the volume")
			}
		}
	}
	if worked < 100 || refused < 100 {
		t.Fatal("these are no wild volumes:", worked, refused)
	}
}
