package names

import (
	"math/rand"
	"slices"
	"strconv"
	"testing"

	"bollard/api"
	"bollard/disk"
	"bollard/volume"
)

// user has a directory, and knows where each entry stands: a list of all, empty
// ones included, and as many as the directory's blocks have.
type user struct {
	t      *testing.T
	source *rand.Rand
	g      api.Geom
	disk   *disk.Disk
	v      *volume.Volume
	dir    int
	stand  []api.Entry
}

func (u *user) anyName() string {
	return "n" + strconv.Itoa(u.source.Intn(60))
}

func (u *user) find(name string) int {
	return slices.IndexFunc(u.stand, func(e api.Entry) bool { return e.Name == name })
}

func (u *user) add() {
	e := entry(1+u.source.Intn(511), u.anyName())
	last := u.v.Last()
	id, why := Add(u.v, u.g, u.dir, e, nil)
	free := slices.Index(u.stand, api.Entry{})
	switch {
	case u.find(e.Name) >= 0:
		answers(u.t, api.ErrExists, why)
	case free >= 0:
		answers(u.t, api.OK, why)
		u.stand[free] = e
	case why == api.OK:
		u.stand = append(u.stand, e)
		u.stand = append(u.stand, make([]api.Entry, 7)...)
	default:
		answers(u.t, api.ErrSpace, why)
	}
	if why == api.OK && id != u.v.Last() || why != api.OK && (id != 0 || last != u.v.Last()) {
		u.t.Fatal(id, why)
	}
}

func (u *user) remove() {
	name := u.anyName()
	_, why := Remove(u.v, u.g, u.dir, name, nil)
	if at := u.find(name); at >= 0 {
		answers(u.t, api.OK, why)
		u.stand[at] = api.Entry{}
		return
	}
	answers(u.t, api.ErrAbsent, why)
}

func (u *user) set() {
	name, ino := u.anyName(), 1+u.source.Intn(511)
	_, why := Set(u.v, u.g, u.dir, name, ino, nil)
	if at := u.find(name); at >= 0 {
		answers(u.t, api.OK, why)
		u.stand[at].Ino = ino
		return
	}
	answers(u.t, api.ErrAbsent, why)
}

// looks holds all that there is to tell of the directory against what it should
// be.
func (u *user) looks() {
	u.t.Helper()
	want := slices.DeleteFunc(slices.Clone(u.stand), isEmpty)
	if l, e := List(u.v, u.g, u.dir); !slices.Equal(l, want) || e != api.OK {
		u.t.Fatal(l, want, e)
	}
	for k := range 60 {
		name := "n" + strconv.Itoa(k)
		ino, e := Lookup(u.v, u.g, u.dir, name)
		if at := u.find(name); at < 0 {
			answers(u.t, api.ErrAbsent, e)
		} else if ino != u.stand[at].Ino || e != api.OK {
			u.t.Fatal(name, ino, e)
		}
	}
	if empty, e := Empty(u.v, u.g, u.dir); empty != (len(want) == 2) || e != api.OK {
		u.t.Fatal(empty, e)
	}
}

// work writes some blocks, and has some of the writes done.
func (u *user) work() {
	for _, b := range u.v.Ready() {
		if u.source.Intn(2) == 0 {
			answers(u.t, api.OK, u.v.Write(b))
		}
	}
	for len(u.v.Way()) > 0 && u.source.Intn(5) > 0 {
		answers(u.t, api.OK, u.v.Complete(u.source.Intn(len(u.v.Way())), true))
	}
}

// crash has some of the writes done, and looks at the directory as it is on the
// disk then: it is one, and all entries are those of names that it may have.
func (u *user) crash() {
	d := u.disk.Copy()
	var done []int
	for _, s := range d.Queue() {
		if u.source.Intn(2) == 0 {
			done = append(done, s.ID)
		}
	}
	answers(u.t, api.OK, d.Crash(done))
	v, e := volume.Open(d, 8)
	answers(u.t, api.OK, e)
	if l, e := List(v, u.g, u.dir); len(l) < 2 || e != api.OK {
		u.t.Fatal(l, e)
	}
}

// TestP16_4Model: behind Add a name is found, behind Remove it is not, all other
// names are as they were; and so it is when all is on the disk.
func TestP16_4Model(t *testing.T) {
	for seed := range int64(12) {
		w := newWorld([]api.Geom{one, three}[seed%2])
		w.dir(2, dots(2, 2))
		if seed%4 == 1 { // few blocks
			for range 10 {
				w.take(nil)
			}
		}
		d, v := opened(t, w.image)
		u := &user{t: t, source: rand.New(rand.NewSource(seed)), g: w.g, disk: d, v: v, dir: 2, stand: append(dots(2, 2), make([]api.Entry, 6)...)}
		for range 150 {
			[]func(){u.add, u.add, u.add, u.remove, u.set, u.work}[u.source.Intn(6)]()
			u.looks()
			u.crash()
		}
		var ids []int
		for id := 1; id <= v.Last(); id++ {
			ids = append(ids, id)
		}
		answers(t, api.OK, v.Sync(ids))
		var e api.Errno
		u.v, e = volume.Open(d, 8)
		answers(t, api.OK, e)
		u.looks()
	}
}
