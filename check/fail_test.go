package check

import (
	"slices"
	"testing"

	"bollard/api"
)

// village's directories, in the order in which pass 2 comes to them.
var entered = []int{2, 4, 9, 5}

// looked is the blocks that a step of the hamlet must look into, and such as it
// may look into beside them.
func looked(w *world, step int) (must, may []int) {
	switch {
	case step < 16:
		must = []int{w.home(step)}
		d := w.get(step)
		for _, b := range []int{d.Single, d.Double} {
			if b != 0 {
				must = append(must, b)
			}
		}
		for place := range 64 {
			if d.Double != 0 && w.fanAt(d.Double, place) != 0 {
				must = append(must, w.fanAt(d.Double, place))
			}
		}
	case step < 20:
		d := w.get(entered[step-16])
		for i := range d.Size / 128 {
			must = append(must, w.addr(entered[step-16], i))
		}
		if d.Size > 4*128 {
			must = append(must, d.Single)
		}
		may = []int{2, 3, 34, 35} // all inodes
	case step < 34:
		ino := step - 20 + 2
		must = []int{w.home(ino)}
		may = []int{ino/8*32 + 1}
	default:
		must = []int{(step-34)*32 + 1}
	}
	return must, may
}

// TestP19_2Fails: a block that can't be read, ahead of whichever step: just the
// steps that look into it fail, and have not been done then.
func TestP19_2Fails(t *testing.T) {
	w := lost()
	clean := run(t, ofWorld(t, w))
	for step := range clean {
		must, may := looked(w, step)
		for b := range w.image {
			d, v, s := taken(t, w, 1, 0, 1)
			c := begun(t, s)
			for range step {
				stepped(t, c)
			}
			other := 0 // takes the one buffer, so that the disk is asked for all others
			if b == 0 {
				other = 63
			}
			_, e := v.Read(other)
			answers(t, api.OK, e)
			answers(t, api.OK, d.Fail(b, 1))
			was := *c
			l, e := c.Step()
			switch {
			case e == api.ErrIO && !slices.Contains(may, b) && !slices.Contains(must, b):
				t.Fatalf("step %d looks into block %d", step, b)
			case e == api.ErrIO:
				if len(l) != 0 || c.Pass() != clean[step].pass || !slices.Equal(c.queue, was.queue) || c.at != was.at || c.met != was.met || c.links != was.links || c.owned != was.owned {
					t.Fatalf("step %d failed, and has been done", step)
				}
			case e != api.OK || slices.Contains(must, b):
				t.Fatalf("step %d does not look into block %d, or tells something else: %v", step, b, e)
			default:
				answers(t, api.OK, d.Fail(b, 0))
				if !slices.Equal(l, clean[step].asked) {
					t.Fatal(l)
				}
				continue
			}
			if rest := run(t, c); !sameSteps(rest, clean[step:]) {
				t.Fatalf("step %d, block %d: the steps behind the failure are others", step, b)
			}
		}
	}
}

// TestP19_2FailsHeader: a header is looked into for inodes that no name leads
// to, and for its blocks, and by no step ahead of that.
func TestP19_2FailsHeader(t *testing.T) {
	w := lost()
	for group := range 2 {
		d, _, s := taken(t, w, 1, 0, api.MaxCache)
		c := begun(t, s)
		answers(t, api.OK, d.Fail(group*32+1, 3))
		failed := 0
		for !c.Done() {
			pass := c.Pass()
			l, e := c.Step()
			if e == api.OK {
				continue
			}
			if len(l) != 0 || e != api.ErrIO || c.Pass() != pass || pass != 3 {
				t.Fatal(l, e, pass, c.Pass())
			}
			failed++
		}
		if failed != 3 { // it lies in a buffer from then on
			t.Fatal(failed)
		}
	}
}

// TestP19_2FailsOften: reads that fail again and again; all is asked just once.
func TestP19_2FailsOften(t *testing.T) {
	w := lost()
	d, _, s := taken(t, w, 1, 0, 1)
	c := begun(t, s)
	for b := range w.image {
		answers(t, api.OK, d.Fail(b, 5))
	}
	var got []api.Request
	failed := 0
	for !c.Done() {
		l, e := c.Step()
		if e == api.ErrIO && len(l) == 0 {
			failed++
			continue
		}
		answers(t, api.OK, e)
		got = append(got, l...)
	}
	// Four blocks of inodes, two headers, 2 + 1 + 1 + 6 blocks of directories
	// that are reached, an indirect block of one, four of the file /f.
	if !slices.Equal(got, wanted(1)) || failed != 5*(4+2+10+1+4) {
		t.Fatal(got, failed)
	}
}
