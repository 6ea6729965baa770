package audit

import (
	"bytes"
	"maps"
	"math/rand"
	"slices"
	"testing"

	"bollard/api"
	"bollard/crash"
	"bollard/dirs"
	"bollard/layout"
	"bollard/sched"
)

// Tests of P9 of the document, as far as an audit shows it. (P1 to P4 and P6:
// TestP26_5Machine; P5: TestP26_1AnyBytes; P8: TestP26_3P8Bits.)

// oneForm fails unless bytes are what is written of that which is read of them.
func oneForm[T any](t *testing.T, b []byte, decode func([]byte) (T, api.Errno), encode func(T) ([]byte, api.Errno)) {
	t.Helper()
	read, e := decode(b)
	answers(t, api.OK, e)
	written, e := encode(read)
	answers(t, api.OK, e)
	if !bytes.Equal(written, b) {
		t.Fatalf("%v: %x, and not %x", read, written, b)
	}
}

// forms holds all structures of an image.
func (w *world) forms(t *testing.T) {
	t.Helper()
	oneForm(t, w.image[0], layout.DecodeSuper, layout.EncodeSuper)
	for group := range w.g.Groups {
		oneForm(t, w.image[group*w.g.Blocks+1], layout.DecodeGroup, layout.EncodeGroup)
	}
	for ino := range w.g.Groups * w.g.Inodes {
		oneForm(t, w.raw(ino), layout.DecodeDinode, layout.EncodeDinode)
		d := w.get(ino)
		for _, b := range []int{d.Single, d.Double} {
			if b != 0 {
				oneForm(t, w.image[b], layout.DecodeFan, layout.EncodeFan)
			}
		}
	}
	for _, a := range w.reached() {
		for i := range a.Size / 128 {
			oneForm(t, w.image[w.addrIn(a, i)], dirs.Decode, dirs.Encode)
		}
	}
}

// reached is the directories that a tree has, by their inodes.
func (w *world) reached() map[int]api.Dinode {
	out := map[int]api.Dinode{}
	all, _ := w.things()
	for _, a := range all {
		if a.mode == api.ModeDir {
			out[a.ino] = w.get(a.ino)
		}
	}
	return out
}

// TestP26_WholeP9OneForm: of all that machines write, whatever of it a crash has
// lost, each structure has the one form.
func TestP26_WholeP9OneForm(t *testing.T) {
	directories := 0
	for seed := range int64(40) {
		r := newRun(t, 500+seed)
		for range 120 {
			r.step()
		}
		for _, image := range append(crash.Images(r.m.Disk(), 8), r.now()) {
			w := &world{g: r.m.FS().Geom(), image: image}
			w.forms(t)
			directories += len(w.reached())
		}
	}
	if directories < 200 {
		t.Fatal(directories)
	}
}

// remade is a machine on whose disk users have made all that a world has.
func remade(t *testing.T, w *world) *sched.Machine {
	t.Helper()
	m, e := sched.New(api.Geom{Groups: 8, Blocks: 256, Inodes: 64})
	answers(t, api.OK, e)
	user := func(c api.Call) {
		t.Helper()
		_, e := m.Do(api.Step{Kind: api.StepCall, Call: c})
		answers(t, api.OK, e)
	}
	all, _ := w.things()
	firsts := map[int]string{}
	for _, path := range slices.Sorted(maps.Keys(all))[1:] { // a directory ahead of what is in it
		a := all[path]
		switch first := firsts[a.ino]; {
		case a.mode == api.ModeDir:
			user(api.Call{Kind: api.CallMkdir, Path: path})
		case first != "":
			user(api.Call{Kind: api.CallLink, Path: first, Other: path})
		default:
			firsts[a.ino] = path
			user(api.Call{Kind: api.CallCreate, Path: path})
			for at := 0; at < len(a.content); at += 128 {
				if piece := a.content[at:min(at+128, len(a.content))]; len(bytes.Trim([]byte(piece), "\x00")) > 0 {
					user(api.Call{Kind: api.CallWrite, Off: at, Bytes: []byte(piece)})
				}
			}
			user(api.Call{Kind: api.CallTruncate, N: len(a.content)})
			user(api.Call{Kind: api.CallClose})
		}
	}
	user(api.Call{Kind: api.CallSync})
	return m
}

// TestP26_WholeP9ThereAndBack: what users write is read as it was, behind a
// crash too, and nothing leaks.
func TestP26_WholeP9ThereAndBack(t *testing.T) {
	held := 0
	for seed := range int64(60) {
		w := anyWorld(rand.New(rand.NewSource(9000 + seed)))
		x := told(t, w)
		if x == nil {
			continue
		}
		held++
		m := remade(t, w)
		answers(t, api.OK, Held(m.Disk().Image(), x))
		_, e := m.Do(api.Step{Kind: api.StepCrash})
		answers(t, api.OK, e)
		answers(t, api.OK, Held(m.Disk().Image(), x))
		c, e := Count(m.Disk().Image())
		if e != api.OK || c.LostBlocks != 0 || c.LostInodes != 0 {
			t.Fatal(seed, c, e)
		}
	}
	if held < 30 {
		t.Fatal(held)
	}
}
