package gauge

import (
	"math"
	"math/rand"
	"slices"
	"strconv"
	"strings"
	"testing"
)

const (
	theNaN   = 0x7ff8000000000001
	plusZero = 0
	negZero  = 1 << 63
	plusInf  = 0x7ff0000000000000
	negInf   = 0xfff0000000000000
	smallest = 1 // the smallest float above nought
	greatest = 0x7fefffffffffffff
	one      = 0x3ff0000000000000
)

// nans are gauges that are no number, quiet and signalling, of both signs.
func nans() []uint64 {
	return []uint64{theNaN, 0x7ff8000000000000, 0x7ff0000000000001, 0x7fffffffffffffff, 0xfff8000000000000, 0xfff8000000000001, 0xfff0000000000001, 0xffffffffffffffff}
}

// finite are gauges of all sizes below the infinities, of both signs.
func finite() []uint64 {
	var out []uint64
	for _, g := range []uint64{plusZero, smallest, 2, 3, 0x000fffffffffffff, 0x0010000000000000, 0x0010000000000001, one - 1, one, one + 1, greatest - 1, greatest} {
		out = append(out, g, g|negZero)
	}
	for _, x := range []float64{0.1, 0.25, 1.0 / 3, 0.7, 1.5, 3, 100, 1e-3, 1e9, 1 << 53, 1<<53 + 2, 1e155, 1e-160, 1e300, 1e308} {
		out = append(out, math.Float64bits(x), math.Float64bits(-x))
	}
	return out
}

// all are gauges of all kinds.
func all() []uint64 {
	return slices.Concat(finite(), nans(), []uint64{plusInf, negInf})
}

// counts are numbers of things, the edges and what no float is near to.
func counts() []int {
	return []int{math.MinInt, math.MinInt + 1, -(1<<53 + 1), -1000, -3, -2, -1, 0, 1, 2, 3, 7, 10, 100, 255, 1 << 20, 1<<53 - 1, 1 << 53, 1<<53 + 1, 1<<53 + 3, 1<<54 + 2, math.MaxInt - 512, math.MaxInt - 511, math.MaxInt}
}

func same(t *testing.T, what string, got, want uint64) {
	t.Helper()
	if got != want {
		t.Fatalf("%s: %016x (%s), want %016x", what, got, Print(got), want)
	}
}

func list(source *rand.Rand, most int) []int {
	out := make([]int, source.Intn(most))
	for i := range out {
		out[i] = source.Intn(300)
		switch source.Intn(6) {
		case 0:
			out[i] = -out[i]
		case 1:
			out[i] = int(source.Uint64() >> source.Intn(20))
		}
	}
	return out
}

func gauges(source *rand.Rand, from []uint64, most int) []uint64 {
	out := make([]uint64, source.Intn(most))
	for i := range out {
		switch source.Intn(3) {
		case 0:
			out[i] = from[source.Intn(len(from))]
		case 1:
			out[i] = math.Float64bits(source.NormFloat64())
		default:
			out[i] = math.Float64bits(source.Float64())
		}
	}
	return out
}

func TestP8_1Fill(t *testing.T) {
	same(t, "1 of 4", Fill(1, 4), 0x3fd0000000000000)
	same(t, "1 of 3", Fill(1, 3), 0x3fd5555555555555)
	same(t, "0 of 5", Fill(0, 5), plusZero)
	same(t, "0 of -5", Fill(0, -5), negZero)
	same(t, "5 of 5", Fill(5, 5), one)
	same(t, "-1 of 2", Fill(-1, 2), 0xbfe0000000000000)
	same(t, "2^53 + 1 of 1", Fill(1<<53+1, 1), 0x4340000000000000) // of two as near the even one
	same(t, "2^53 + 3 of 1", Fill(1<<53+3, 1), 0x4340000000000002)
	for _, used := range counts() {
		for _, total := range counts() {
			same(t, "Fill("+strconv.Itoa(used)+", "+strconv.Itoa(total)+")", Fill(used, total), gauged(over(whole(used), whole(total))))
		}
	}
}

func TestP8_1Mean(t *testing.T) {
	same(t, "none", Mean(nil), theNaN)
	same(t, "none", Mean([]int{}), theNaN)
	same(t, "2, 3", Mean([]int{2, 3}), 0x4004000000000000)
	same(t, "0", Mean([]int{0}), plusZero)
	same(t, "5, -5", Mean([]int{5, -5}), plusZero)
	// As floats, in order: as whole numbers the sums would wrap round, or keep what a float can't.
	same(t, "the greatest, twice", Mean([]int{math.MaxInt, math.MaxInt}), gauged(1<<63))
	same(t, "2^53, 1, 1, -2^53", Mean([]int{1 << 53, 1, 1, -1 << 53}), plusZero)
	same(t, "1, 1, 2^53, -2^53", Mean([]int{1, 1, 1 << 53, -1 << 53}), gauged(0.5))
	source := rand.New(rand.NewSource(1))
	for range 2000 {
		runs := list(source, 12)
		same(t, "a mean", Mean(runs), gauged(over(addUp(wholes(runs)), whole(len(runs)))))
	}
}

func TestP8_1Broken(t *testing.T) {
	same(t, "none", Broken(nil), theNaN)
	same(t, "none", Broken([]int{}), theNaN)
	same(t, "3, 3", Broken([]int{3, 3}), gauged(0.5))
	same(t, "7", Broken([]int{7}), plusZero)
	same(t, "1, 2, 5", Broken([]int{1, 2, 5}), gauged(0.375))
	same(t, "0", Broken([]int{0}), theNaN)
	same(t, "-3", Broken([]int{-3}), plusZero) // the greatest of them, though it is below 0
	same(t, "-4, -1", Broken([]int{-4, -1}), gauged(1-1.0/5))
	same(t, "1, -1", Broken([]int{1, -1}), negInf)
	same(t, "0, 0, 0", Broken([]int{0, 0, 0}), theNaN)
	source := rand.New(rand.NewSource(2))
	for range 2000 {
		runs := list(source, 12)
		longest := 0
		for i, n := range runs {
			if i == 0 || n > longest {
				longest = n
			}
		}
		same(t, "a broken one", Broken(runs), gauged(minus(1, over(whole(longest), addUp(wholes(runs))))))
	}
}

func TestP8_1Score(t *testing.T) {
	same(t, "half, and 3 of 2", Score(1, 2, 3, 1), gauged(2))
	same(t, "no directories", Score(0, 1, 5, 0), gauged(5))
	same(t, "no blocks", Score(1, 0, 1, 1), plusInf)
	same(t, "none of none", Score(0, 0, 1, 1), theNaN)
	same(t, "dirs + 1 is nought", Score(1, 2, 1, -1), plusInf)
	same(t, "against each other", Score(1, 0, -1, -1), theNaN)
	same(t, "a sum of floats", Score(0, 1, 1, math.MaxInt), gauged(1.0/(1<<63))) // as a whole number it would wrap round
	for _, free := range counts() {
		for _, total := range []int{math.MinInt, -3, -1, 0, 1, 3, 1<<53 + 1, math.MaxInt} {
			for _, inodes := range []int{math.MinInt, -7, 0, 1, 7, 1<<53 + 1, math.MaxInt} {
				for _, dirs := range counts() {
					want := plus(over(whole(free), whole(total)), over(whole(inodes), plus(whole(dirs), 1)))
					same(t, "a score", Score(free, total, inodes, dirs), gauged(want))
				}
			}
		}
	}
}

// smoothed is Smooth, said again.
func smoothed(old, now uint64, h float64) uint64 {
	a, b := math.Float64frombits(old), math.Float64frombits(now)
	return gauged(plus(a, times(minus(b, a), over(h, 100))))
}

func TestP8_1Smooth(t *testing.T) {
	same(t, "0 to 1 by 25", Smooth(plusZero, one, 25), gauged(0.25))
	same(t, "1 to 0 by 25", Smooth(one, plusZero, 25), gauged(0.75))
	for _, old := range all() {
		for _, now := range all() {
			for _, h := range []int{0, 1, 3, 33, 50, 99, 100} {
				same(t, "Smooth("+Print(old)+", "+Print(now)+", "+strconv.Itoa(h)+")", Smooth(old, now, h), smoothed(old, now, float64(h)))
			}
		}
	}
}

func TestP8_1SmoothAtEachHundredth(t *testing.T) {
	source := rand.New(rand.NewSource(3))
	for range 60 {
		old, now := math.Float64bits(source.NormFloat64()), math.Float64bits(source.Float64())
		for h := range 101 {
			same(t, "Smooth", Smooth(old, now, h), smoothed(old, now, float64(h)))
		}
		for _, h := range []int{math.MinInt, math.MinInt32, -101, -100, -1} {
			same(t, "below 0", Smooth(old, now, h), smoothed(old, now, 0))
		}
		for _, h := range []int{101, 200, 1000, math.MaxInt32, math.MaxInt} {
			same(t, "above 100", Smooth(old, now, h), smoothed(old, now, 100))
		}
	}
}

func TestP8_1Spread(t *testing.T) {
	same(t, "none", Spread(nil), theNaN)
	same(t, "none", Spread([]uint64{}), theNaN)
	same(t, "one", Spread([]uint64{one}), plusZero)
	same(t, "1, 3", Spread([]uint64{gauged(1), gauged(3)}), one)
	same(t, "-0", Spread([]uint64{negZero}), plusZero)
	same(t, "an infinity", Spread([]uint64{one, plusInf}), theNaN)
	same(t, "no number", Spread([]uint64{one, 0xfff8000000000000}), theNaN)
	same(t, "the greatest, both signs", Spread([]uint64{greatest, greatest | negZero}), plusInf)
	same(t, "the smallest", Spread([]uint64{smallest, 3}), plusZero) // the squares are too small
	source := rand.New(rand.NewSource(4))
	from := finite()
	for round := range 3000 {
		if round == 2000 {
			from = all()
		}
		l := gauges(source, from, 9)
		var xs, squares []float64
		for _, g := range l {
			xs = append(xs, math.Float64frombits(g))
		}
		m := over(addUp(xs), whole(len(l)))
		for _, x := range xs {
			squares = append(squares, times(minus(x, m), minus(x, m)))
		}
		same(t, "a spread", Spread(l), gauged(over(addUp(squares), whole(len(l)))))
	}
}

// rank is Order's place of a gauge, by its bits: a float's bits rise with it.
func rank(g uint64) uint64 {
	switch {
	case g&^(1<<63) > plusInf:
		return 0
	case g>>63 == 1:
		return ^g
	}
	return g | 1<<63
}

func TestP8_2Order(t *testing.T) {
	rising := []uint64{theNaN, negInf, greatest | negZero, one | negZero, smallest | negZero, negZero, plusZero, smallest, 0x000fffffffffffff, 0x0010000000000000, one - 1, one, one + 1, greatest, plusInf}
	for i, a := range rising {
		for j, b := range rising {
			want := 0
			if i < j {
				want = -1
			} else if i > j {
				want = 1
			}
			if got := Order(a, b); got != want {
				t.Errorf("Order(%016x, %016x): %d, want %d", a, b, got, want)
			}
		}
	}
	for _, a := range nans() {
		for _, b := range nans() {
			if Order(a, b) != 0 {
				t.Errorf("Order(%016x, %016x): what is no number is the same as itself", a, b)
			}
		}
		for _, b := range append(finite(), plusInf, negInf) {
			if Order(a, b) != -1 || Order(b, a) != 1 {
				t.Errorf("%016x is not below %016x", a, b)
			}
		}
	}
}

func TestP8_2Best(t *testing.T) {
	for _, x := range []struct {
		scores []uint64
		at     int
		ok     bool
	}{
		{nil, 0, false}, {[]uint64{}, 0, false}, {make([]uint64, 0, 4), 0, false},
		{[]uint64{one}, 0, true}, {[]uint64{theNaN}, 0, true}, {[]uint64{negInf}, 0, true},
		{[]uint64{one, one, one}, 0, true}, {[]uint64{theNaN, 5, 5}, 1, true}, {[]uint64{5, one, 5, one}, 1, true},
		{[]uint64{0xfff8000000000000, theNaN}, 0, true}, {[]uint64{theNaN, negInf}, 1, true}, {[]uint64{negInf, theNaN}, 0, true},
		{[]uint64{negZero, plusZero}, 1, true}, {[]uint64{plusZero, negZero}, 0, true}, {[]uint64{one | negZero, smallest | negZero}, 1, true},
		{[]uint64{greatest, plusInf, 0x7ff8000000000000}, 1, true}, {[]uint64{0xffffffffffffffff, one}, 1, true},
	} {
		if at, ok := Best(x.scores); at != x.at || ok != x.ok {
			t.Errorf("Best(%x): %d, %v; want %d, %v", x.scores, at, ok, x.at, x.ok)
		}
	}
	source := rand.New(rand.NewSource(5))
	for range 2000 {
		l := gauges(source, all(), 9)
		want := 0
		for i, g := range l {
			if rank(g) > rank(l[want]) {
				want = i
			}
		}
		if at, ok := Best(l); at != want || ok != (len(l) > 0) {
			t.Fatalf("Best(%x): %d, %v; want %d", l, at, ok, want)
		}
	}
}

func TestP8_3PrintEdges(t *testing.T) {
	for g, want := range map[uint64]string{
		plusInf: "inf", negInf: "-inf", plusZero: "0.000", negZero: "-0.000",
		smallest: "0.000", smallest | negZero: "-0.000", greatest: "big", greatest | negZero: "big",
		gauged(0.25): "0.250", gauged(-0.25): "-0.250", one: "1.000", gauged(-1): "-1.000", gauged(0.9999): "1.000", gauged(-0.9999): "-1.000",
		gauged(0.0004): "0.000", gauged(-0.0004): "-0.000", gauged(0.001): "0.001", gauged(0.01): "0.010", gauged(0.1): "0.100",
		gauged(12.345): "12.345", gauged(1234567.891): "1234567.891", gauged(10): "10.000", gauged(999.9994): "999.999", gauged(999.9996): "1000.000",
		// Of two as near the even one: products that end in a half.
		gauged(0.0625): "0.062", gauged(0.1875): "0.188", gauged(0.3125): "0.312", gauged(-0.4375): "-0.438", gauged(0.0005): "0.000", gauged(0.0015): "0.002",
	} {
		if got := Print(g); got != want {
			t.Errorf("Print(%016x): %q, want %q", g, got, want)
		}
	}
	for _, g := range nans() {
		if got := Print(g); got != "nan" {
			t.Errorf("Print(%016x): %q", g, got)
		}
	}
}

// The first product that is big is 2^53 itself.
func TestP8_3PrintBig(t *testing.T) {
	x := float64(1<<53) / 1000
	for times(x, 1000) >= 1<<53 {
		x = math.Nextafter(x, 0)
	}
	below := strconv.FormatFloat(times(x, 1000), 'f', 0, 64)
	below = below[:len(below)-3] + "." + below[len(below)-3:]
	if !strings.HasPrefix(below, "9007199254740.99") {
		t.Fatal(below)
	}
	if got := Print(gauged(x)); got != below {
		t.Errorf("just below: %q, want %q", got, below)
	}
	if got := Print(gauged(-x)); got != "-"+below {
		t.Errorf("just below, negative: %q", got)
	}
	x = math.Nextafter(x, math.Inf(1))
	if times(x, 1000) != 1<<53 {
		t.Fatalf("%v is not the first one", x)
	}
	for _, big := range []float64{x, -x, math.Nextafter(x, math.Inf(1)), 1e13, 1e300, math.MaxFloat64, -math.MaxFloat64} {
		if got := Print(gauged(big)); got != "big" {
			t.Errorf("%v: %q", big, got)
		}
	}
}

// printed is Print of what is finite, said again.
func printed(g uint64) string {
	x := math.Float64frombits(g)
	product := times(math.Abs(x), 1000)
	if product >= 1<<53 {
		return "big"
	}
	text := strconv.FormatFloat(product, 'f', 0, 64) // which rounds halves to even
	for len(text) < 4 {
		text = "0" + text
	}
	text = text[:len(text)-3] + "." + text[len(text)-3:]
	if g>>63 == 1 {
		text = "-" + text
	}
	return text
}

func TestP8_3Print(t *testing.T) {
	source := rand.New(rand.NewSource(6))
	l := finite()
	for i := range 3000 {
		l = append(l, math.Float64bits(source.NormFloat64()*math.Pow(10, float64(source.Intn(18)-4))), math.Float64bits(float64(i)/16), math.Float64bits(float64(i)/2000))
	}
	for _, g := range l {
		if got, want := Print(g), printed(g); got != want {
			t.Fatalf("Print(%016x): %q, want %q", g, got, want)
		}
	}
}

func TestP8_4OrderIsTotal(t *testing.T) {
	l := all()
	for _, a := range l {
		if Order(a, a) != 0 {
			t.Fatalf("%016x is not the same as itself", a)
		}
		for _, b := range l {
			ab := Order(a, b)
			if ab != -Order(b, a) || ab < -1 || ab > 1 {
				t.Fatalf("Order(%016x, %016x): %d, and %d", a, b, ab, Order(b, a))
			}
			if (ab == 0) != (rank(a) == rank(b)) || (ab < 0) != (rank(a) < rank(b)) {
				t.Fatalf("Order(%016x, %016x): %d", a, b, ab)
			}
			for _, c := range l {
				if ab <= 0 && Order(b, c) <= 0 && Order(a, c) > 0 {
					t.Fatalf("%016x, %016x, %016x", a, b, c)
				}
			}
		}
	}
}

func TestP8_5FillOfNought(t *testing.T) {
	same(t, "0 of 0", Fill(0, 0), theNaN)
	for _, used := range counts() {
		switch {
		case used > 0:
			same(t, "more of 0", Fill(used, 0), plusInf)
		case used < 0:
			same(t, "less of 0", Fill(used, 0), negInf)
		}
	}
}

// Where the difference of both is past the greatest float, P8.1 makes it
// infinite, and nought times it is no number: that is told.
func TestP8_6SmoothByNought(t *testing.T) {
	for _, old := range finite() {
		for _, now := range finite() {
			a, b := math.Float64frombits(old), math.Float64frombits(now)
			for _, h := range []int{0, -1, math.MinInt} {
				got := Smooth(old, now, h)
				switch {
				case !isFinite(minus(b, a)):
					same(t, "a difference that is infinite", got, theNaN)
				case old == negZero && got == plusZero:
				default:
					same(t, "old", got, old)
				}
			}
		}
	}
}

func TestP8_6SmoothByHundred(t *testing.T) {
	for _, old := range finite() {
		for _, now := range finite() {
			a, b := math.Float64frombits(old), math.Float64frombits(now)
			for _, h := range []int{100, 101, math.MaxInt} {
				same(t, "one difference, one sum", Smooth(old, now, h), gauged(plus(a, minus(b, a))))
			}
		}
	}
	same(t, "0.25 to 1", Smooth(gauged(0.25), one, 100), one)
}

// The promise of the whole P8: what is no number has one form, whatever came in.
func TestP8_1OneNaN(t *testing.T) {
	for _, nan := range nans() {
		for _, g := range all() {
			for _, h := range []int{0, 50, 100} {
				same(t, "Smooth from none", Smooth(nan, g, h), theNaN)
				same(t, "Smooth to none", Smooth(g, nan, h), theNaN)
			}
			same(t, "Spread", Spread([]uint64{g, nan}), theNaN)
			same(t, "Spread", Spread([]uint64{nan, g}), theNaN)
		}
		same(t, "Spread", Spread([]uint64{nan}), theNaN)
	}
}

// Lists that are handed in stay as they were, with the room behind their ends.
func TestMemory(t *testing.T) {
	runs := []int{5, 3, 9, 1, 77, 88}
	Mean(runs[:4])
	Broken(runs[:4])
	if !slices.Equal(runs, []int{5, 3, 9, 1, 77, 88}) {
		t.Fatal(runs)
	}
	was := all()
	l := slices.Clone(was)
	for n := range l {
		Best(l[:n])
		Spread(l[:n])
	}
	if !slices.Equal(l, was) {
		t.Fatal("a list of gauges has changed")
	}
}
