package layout

import (
	"bytes"
	"math/rand"
	"testing"

	"bollard/api"
)

// randomSuper and its like are things most of which may be, some at an edge
// or one past it.
func randomSuper(r *rand.Rand) api.Super {
	return superOf(r.Intn(10), 6+r.Intn(253), 4*r.Intn(18)+r.Intn(9)/8, r.Intn(1<<32+1<<30))
}

func superMayModel(s api.Super) bool {
	g := s.Geom
	return g.Groups >= 1 && g.Groups <= 8 && g.Blocks >= 8 && g.Blocks <= 256 && g.Inodes >= 4 && g.Inodes <= 64 &&
		g.Inodes&3 == 0 && g.Blocks-2-g.Inodes/4 > 0 && s.Mounts >= 0 && s.Mounts>>32 == 0
}

func TestP3_4SuperRandom(t *testing.T) {
	r := rand.New(rand.NewSource(31))
	may := 0
	for range 20000 {
		s := randomSuper(r)
		b := superBytes(s.Geom.Groups, s.Geom.Blocks, s.Geom.Inodes, s.Mounts)
		switch {
		case superMayModel(s):
			may++
			holds(t, s, b, EncodeSuper, DecodeSuper)
		default:
			mayNot(t, s, EncodeSuper)
			if s.Mounts>>32 == 0 && s.Geom.Blocks <= 256 { // else the bytes are another one's
				refused(t, b, api.ErrForm, DecodeSuper)
			}
		}
	}
	if may < 5000 || may > 15000 {
		t.Fatal(may)
	}
}

func randomDinode(r *rand.Rand) api.Dinode {
	address := func() int { return r.Intn(2048 + 8) }
	d := api.Dinode{Mode: r.Intn(4), Links: r.Intn(1010), Size: r.Intn(maxFile + 1000)}
	if r.Intn(2) == 0 {
		d.Size -= d.Size % 128
	}
	for i := range d.Direct {
		d.Direct[i] = address()
	}
	d.Single, d.Double = address(), address()
	return d
}

func dinodeMayModel(d api.Dinode) bool {
	for _, n := range append([]int{d.Single, d.Double}, d.Direct[:]...) {
		if n < 0 || n > 2047 {
			return false
		}
	}
	return (d.Mode == 1 || d.Mode == 2 && d.Size&127 == 0) && d.Links >= 0 && d.Links <= 1000 && d.Size >= 0 && d.Size <= maxFile
}

func TestP3_4DinodeRandom(t *testing.T) {
	r := rand.New(rand.NewSource(32))
	may := 0
	for range 20000 {
		d := randomDinode(r)
		if dinodeMayModel(d) {
			may++
			holds(t, d, dinodeBytes(d), EncodeDinode, DecodeDinode)
			continue
		}
		mayNot(t, d, EncodeDinode)
		refused(t, dinodeBytes(d), api.ErrForm, DecodeDinode)
	}
	if may < 3000 || may > 15000 {
		t.Fatal(may)
	}
}

// TestP3_4Noise: of bytes with some turned, whatever is taken is written as
// it was; whatever is not, tells the zero thing and one of the chapter's errors.
func TestP3_4Noise(t *testing.T) {
	r := rand.New(rand.NewSource(33))
	for _, k := range kinds() {
		taken := 0
		for range 20000 {
			b := bytes.Clone(k.sample)
			for range r.Intn(4) {
				b[r.Intn(len(b))] = byte(r.Intn(256) >> r.Intn(8))
			}
			if r.Intn(2) == 0 {
				b = resealed(b)
			}
			zero, again, e := k.decode(b)
			switch e {
			case api.OK:
				taken++
				if !bytes.Equal(again, b) {
					t.Fatalf("%s: %x, written as %x", k.name, b, again)
				}
			case api.ErrForm, api.ErrMagic, api.ErrSum:
				if !zero {
					t.Fatalf("%s: %x: %v, and not the zero thing", k.name, b, e)
				}
			default:
				t.Fatalf("%s: %x: %v", k.name, b, e)
			}
		}
		if taken == 0 || taken == 20000 {
			t.Errorf("%s: %d taken", k.name, taken)
		}
	}
}

// TestP3_4NoiseAlone: bytes of no structure at all are refused or taken, and
// nothing panics.
func TestP3_4NoiseAlone(t *testing.T) {
	r := rand.New(rand.NewSource(34))
	for _, k := range kinds() {
		for range 5000 {
			b := make([]byte, r.Intn(2*k.size+1))
			r.Read(b)
			if r.Intn(2) == 0 {
				b = padded(b[:min(len(b), k.size)], k.size)
			}
			zero, again, e := k.decode(b)
			if e == api.OK && !bytes.Equal(again, b) || e != api.OK && !zero {
				t.Fatalf("%s: %x: %v, %x", k.name, b, e, again)
			}
		}
	}
}
