package disk

import (
	"bytes"
	"math/rand"
	"slices"
	"testing"

	"bollard/api"
)

// model is a disk of few blocks, said again as plainly as can be: a block has
// one number for all its bytes.
type model struct {
	blocks, fails []int
	queue         [][3]int // number, block, what it has
	last          int
}

func (m *model) place(id int) int {
	return slices.IndexFunc(m.queue, func(w [3]int) bool { return w[0] == id })
}

func (m *model) write(b, x int) (int, api.Errno) {
	if b < 0 || b >= len(m.blocks) {
		return 0, api.ErrArg
	}
	for _, w := range m.queue {
		if w[1] == b {
			return 0, api.ErrBusy
		}
	}
	if len(m.queue) == api.MaxQueue {
		return 0, api.ErrState
	}
	m.last++
	m.queue = append(m.queue, [3]int{m.last, b, x})
	return m.last, api.OK
}

func (m *model) complete(id int, ok bool) api.Errno {
	at := m.place(id)
	if at < 0 {
		return api.ErrWrite
	}
	w := m.queue[at]
	m.queue = append(slices.Clone(m.queue[:at]), m.queue[at+1:]...)
	if !ok {
		return api.ErrIO
	}
	m.blocks[w[1]] = w[2]
	return api.OK
}

func (m *model) crash(done []int) api.Errno {
	for _, id := range done {
		if m.place(id) < 0 {
			return api.ErrWrite
		}
	}
	for _, w := range m.queue {
		if slices.Contains(done, w[0]) {
			m.blocks[w[1]] = w[2]
		}
	}
	m.queue = nil
	clear(m.fails)
	return api.OK
}

func (m *model) read(b int) (int, api.Errno) {
	if b < 0 || b >= len(m.blocks) {
		return 0, api.ErrArg
	}
	if m.fails[b] > 0 {
		m.fails[b]--
		return 0, api.ErrIO
	}
	return m.blocks[b], api.OK
}

func (m *model) fail(b, times int) api.Errno {
	if b < 0 || b >= len(m.blocks) || times < 0 || times > 1000 {
		return api.ErrArg
	}
	m.fails[b] = times
	return api.OK
}

// agree fails unless the disk's image and queue are the model's.
func agree(t *testing.T, d *Disk, m *model) {
	t.Helper()
	image, queue := d.Image(), d.Queue()
	if len(image) != len(m.blocks) || len(queue) != len(m.queue) {
		t.Fatalf("%d blocks, %d writes; want %d, %d", len(image), len(queue), len(m.blocks), len(m.queue))
	}
	for b, x := range m.blocks {
		if !bytes.Equal(image[b], full(byte(x))) {
			t.Fatalf("block %d: %x, want all %x", b, image[b], x)
		}
	}
	for i, w := range m.queue {
		if queue[i].ID != w[0] || queue[i].Block != w[1] || !bytes.Equal(queue[i].Bytes, full(byte(w[2]))) {
			t.Fatalf("write %d: %v, want %v", i, queue[i], w)
		}
	}
}

// step does one call on both, and fails unless they answer alike.
func step(t *testing.T, source *rand.Rand, d *Disk, m *model) {
	t.Helper()
	b, x := source.Intn(len(m.blocks)+2)-1, source.Intn(256)
	near := m.last - source.Intn(len(m.blocks)+3) + 2
	same := func(name string, got, want api.Errno) {
		if got != want {
			t.Fatalf("%s: %v, want %v", name, got, want)
		}
	}
	switch kind := source.Intn(100); {
	case kind < 45:
		id, e := d.Write(b, full(byte(x)))
		wantID, want := m.write(b, x)
		same("Write", e, want)
		if id != wantID {
			t.Fatalf("Write: %d, want %d", id, wantID)
		}
	case kind < 75:
		ok := source.Intn(4) > 0
		same("Complete", d.Complete(near, ok), m.complete(near, ok))
	case kind < 90:
		got, e := d.Read(b)
		want, wantE := m.read(b)
		same("Read", e, wantE)
		if e == api.OK && !bytes.Equal(got, full(byte(want))) {
			t.Fatalf("Read(%d): %x, want all %x", b, got, want)
		}
	case kind < 97:
		times := source.Intn(5) - 1
		same("Fail", d.Fail(b, times), m.fail(b, times))
	default:
		done := []int{}
		for _, w := range m.queue {
			if source.Intn(2) > 0 {
				done = append(done, w[0])
			}
		}
		if source.Intn(4) == 0 {
			done = append(done, near)
		}
		same("Crash", d.Crash(done), m.crash(done))
	}
	agree(t, d, m)
}

func TestP2_7LastDoneWrite(t *testing.T) {
	for seed := range int64(40) {
		source := rand.New(rand.NewSource(seed))
		blocks := 1 + source.Intn(12)
		m := &model{blocks: make([]int, blocks), fails: make([]int, blocks)}
		image := make([][]byte, blocks)
		for b := range image {
			m.blocks[b] = source.Intn(256)
			image[b] = full(byte(m.blocks[b]))
		}
		d, e := Of(image)
		if e != api.OK {
			t.Fatal(e)
		}
		agree(t, d, m)
		for range 400 {
			if source.Intn(50) == 0 {
				d = d.Copy()
			}
			step(t, source, d, m)
		}
	}
}
