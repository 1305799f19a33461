package till_test

import (
	"math"
	"math/big"
	"strconv"

	"trolley/api"
)

// nan is the only bits by which no number is told.
const nan = 0x7ff8000000000001

// nans are no numbers: quiet and signalling ones, of both signs.
var nans = []uint64{nan, 0x7ff8000000000000, 0x7ff0000000000001, 0x7fffffffffffffff, 0xfff8000000000000, 0xfff8000000000001, 0xfff0000000000001, math.MaxUint64}

var (
	inf       = bits(math.Inf(1))
	below     = bits(math.Inf(-1))
	most      = bits(math.MaxFloat64)
	least     = bits(math.SmallestNonzeroFloat64)
	zero      = uint64(0)
	minusZero = uint64(1) << 63
)

func bits(f float64) uint64 { return math.Float64bits(f) }

func float(b uint64) float64 { return math.Float64frombits(b) }

func hex(b uint64) string { return strconv.FormatUint(b, 16) }

func hexes(l []uint64) string {
	s := ""
	for _, b := range l {
		s += hex(b) + " "
	}
	return s
}

// rising are numbers, each one above those ahead of it.
func rising() []uint64 {
	l := []float64{
		math.Inf(-1), -math.MaxFloat64, -1 << 53, -1.5, -1, math.Nextafter(-1, 0), -0x1p-1022, math.Nextafter(-0x1p-1022, 0), -math.SmallestNonzeroFloat64, math.Copysign(0, -1),
		0, math.SmallestNonzeroFloat64, math.Nextafter(0x1p-1022, 0), 0x1p-1022, 0.01, 0.1, math.Nextafter(1, 0), 1, math.Nextafter(1, 2), 1.5, 1 << 53, math.MaxFloat64, math.Inf(1),
	}
	var all []uint64
	for _, f := range l {
		all = append(all, bits(f))
	}
	return all
}

func line(qty int, price uint64) api.Line { return api.Line{Item: "milk", Qty: qty, Price: price} }

func lines(l ...api.Line) []api.Line { return l }

func floats(l ...float64) []uint64 {
	var all []uint64
	for _, f := range l {
		all = append(all, bits(f))
	}
	return all
}

// exact is a number of a float's digits: each of its steps is rounded once, to the nearest, of two as near to the even one. It has no infinities and no least one, so that it stands for floats far from both edges.
func exact(f float64) *big.Float { return new(big.Float).SetPrec(53).SetFloat64(f) }

func plus(a, b *big.Float) *big.Float  { return exact(0).Add(a, b) }
func minus(a, b *big.Float) *big.Float { return exact(0).Sub(a, b) }
func times(a, b *big.Float) *big.Float { return exact(0).Mul(a, b) }
func by(a, b *big.Float) *big.Float    { return exact(0).Quo(a, b) }
func whole(n int) *big.Float           { return exact(0).SetInt64(int64(n)) }

func worth(l api.Line) *big.Float { return times(whole(l.Qty), exact(float(l.Price))) }

func bitsOf(x *big.Float) uint64 {
	f, _ := x.Float64()
	return bits(f)
}

func isNumber(b uint64) bool { return float(b) == float(b) }

// sum goes from +0 on, in order.
func sum[T any](l []T, of func(T) *big.Float) *big.Float {
	s := exact(0)
	for _, x := range l {
		s = plus(s, of(x))
	}
	return s
}

func total(l []api.Line) *big.Float { return sum(l, worth) }

func mean(l []uint64) *big.Float {
	return by(sum(l, func(b uint64) *big.Float { return exact(float(b)) }), whole(len(l)))
}

func spread(l []uint64) *big.Float {
	m := mean(l)
	return by(sum(l, func(b uint64) *big.Float {
		d := minus(exact(float(b)), m)
		return times(d, d)
	}), whole(len(l)))
}

// dice are numbers that look thrown, the same ones each time.
type dice struct{ x uint64 }

func (g *dice) below(n int) int {
	g.x = g.x*6364136223846793005 + 1442695040888963407
	return int(g.x >> 33 % uint64(n))
}

func (g *dice) word() uint64 {
	return uint64(g.below(1<<31))<<33 ^ uint64(g.below(1<<31))<<16 ^ uint64(g.below(1<<31))
}

// any is any bits, often one of the edges.
func (g *dice) any() uint64 {
	switch g.below(4) {
	case 0:
		return rising()[g.below(len(rising()))]
	case 1:
		return nans[g.below(len(nans))]
	}
	return g.word()
}

// cents is a float of every day, and not nought.
func (g *dice) cents() uint64 { return bits(float64(1+g.below(1000000)) / 100) }

// text is a price's text with so many digits behind the point.
func (g *dice) text(behind int) string {
	s := strconv.Itoa(g.below([]int{1, 10, 1000, 1000000000}[g.below(4)]))
	if behind > 0 {
		s += "."
	}
	for range behind {
		s += strconv.Itoa(g.below(10))
	}
	return s
}
