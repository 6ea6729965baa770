package gauge

import (
	"math"
	"math/big"
)

// The four operations once more, by fractions that are never rounded until the
// end: what float64 arithmetic must tell, each operation rounded once.

func isFinite(x float64) bool {
	return !math.IsNaN(x) && !math.IsInf(x, 0)
}

// nought is one with a sign.
func nought(negative bool) float64 {
	if negative {
		return math.Copysign(0, -1)
	}
	return 0
}

func infinite(negative bool) float64 {
	if negative {
		return math.Inf(-1)
	}
	return math.Inf(1)
}

func fraction(x float64) *big.Rat {
	return new(big.Rat).SetFloat64(x)
}

// nearest is a fraction, other than nought, rounded once.
func nearest(r *big.Rat) float64 {
	x, _ := r.Float64()
	return x
}

func plus(a, b float64) float64 {
	switch {
	case math.IsNaN(a) || math.IsNaN(b):
		return math.NaN()
	case math.IsInf(a, 0) && math.IsInf(b, 0) && math.Signbit(a) != math.Signbit(b):
		return math.NaN()
	case math.IsInf(a, 0):
		return a
	case math.IsInf(b, 0):
		return b
	}
	r := new(big.Rat).Add(fraction(a), fraction(b))
	if r.Sign() == 0 {
		return nought(math.Signbit(a) && math.Signbit(b))
	}
	return nearest(r)
}

func minus(a, b float64) float64 {
	return plus(a, math.Float64frombits(math.Float64bits(b)^1<<63)) // the other sign, of noughts too
}

func times(a, b float64) float64 {
	negative := math.Signbit(a) != math.Signbit(b)
	switch {
	case math.IsNaN(a) || math.IsNaN(b):
		return math.NaN()
	case !isFinite(a) || !isFinite(b):
		if a == 0 || b == 0 {
			return math.NaN()
		}
		return infinite(negative)
	case a == 0 || b == 0:
		return nought(negative)
	}
	return nearest(new(big.Rat).Mul(fraction(a), fraction(b)))
}

func over(a, b float64) float64 {
	negative := math.Signbit(a) != math.Signbit(b)
	switch {
	case math.IsNaN(a) || math.IsNaN(b) || !isFinite(a) && !isFinite(b) || a == 0 && b == 0:
		return math.NaN()
	case !isFinite(a) || b == 0:
		return infinite(negative)
	case !isFinite(b) || a == 0:
		return nought(negative)
	}
	return nearest(new(big.Rat).Quo(fraction(a), fraction(b)))
}

// whole is a number of things as the nearest float.
func whole(n int) float64 {
	if n == 0 {
		return 0
	}
	return nearest(new(big.Rat).SetInt64(int64(n)))
}

func addUp(l []float64) float64 {
	out := 0.0
	for _, x := range l {
		out = plus(out, x)
	}
	return out
}

func wholes(l []int) []float64 {
	var out []float64
	for _, n := range l {
		out = append(out, whole(n))
	}
	return out
}

// gauged is a float as the chapter tells it.
func gauged(x float64) uint64 {
	if x != x {
		return 0x7ff8000000000001
	}
	return math.Float64bits(x)
}
