package whole

import (
	"slices"
	"testing"

	"bollard/api"
	"bollard/disk"
	"bollard/volume"
)

func open(t *testing.T) *volume.Volume {
	t.Helper()
	d, e := disk.New(4)
	if e != api.OK {
		t.Fatal(e)
	}
	v, e := volume.Open(d, 4)
	if e != api.OK {
		t.Fatal(e)
	}
	return v
}

// changer makes changes of a volume, and counts them.
type changer struct {
	v     *volume.Volume
	calls int
}

func (c *changer) change() api.Errno {
	c.calls++
	_, e := c.v.Change(c.calls%4, 0, []byte{byte(c.calls)}, nil)
	return e
}

func (c *changer) fail() api.Errno {
	c.calls++
	return api.ErrSpace
}

func TestDoAll(t *testing.T) {
	c := &changer{v: open(t)}
	if e := Do(c.v, c.change, c.change, c.change); e != api.OK || c.calls != 3 || c.v.Last() != 3 {
		t.Fatal(e, c.calls, c.v.Last())
	}
	if e := Do(c.v); e != api.OK || c.v.Last() != 3 {
		t.Fatal(e, c.v.Last())
	}
}

// TestDoNone: behind the first error no further change is made, and what was
// patched ahead of Do stays.
func TestDoNone(t *testing.T) {
	c := &changer{v: open(t)}
	if e := Do(c.v, c.change); e != api.OK {
		t.Fatal(e)
	}
	if e := Do(c.v, c.change, c.change, c.fail, c.change); e != api.ErrSpace || c.calls != 4 {
		t.Fatal(e, c.calls)
	}
	if c.v.Last() != 1 || !slices.Equal(c.v.Dirty(), []int{1}) {
		t.Fatal(c.v.Last(), c.v.Dirty())
	}
}

func TestDoNoVolume(t *testing.T) {
	for _, v := range []*volume.Volume{nil, {}} {
		c := &changer{v: v}
		if e := Do(v, c.change, c.change); e != api.ErrNil || c.calls != 1 {
			t.Fatal(e, c.calls)
		}
	}
}
