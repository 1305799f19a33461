package till_test

import (
	"math"
	"slices"
	"testing"

	"trolley/api"
	"trolley/till"
)

func totals(t *testing.T, want uint64, l ...api.Line) {
	t.Helper()
	if got := till.Total(l); got != want {
		t.Errorf("Total(%v) = %x, want %x", l, got, want)
	}
}

// The bits were worked out elsewhere. In one step instead of two (a product and a sum) some of them would be others.
func TestP11_3Total(t *testing.T) {
	price := func(s string) uint64 { b, _ := till.Price(s); return b }
	totals(t, 0)
	totals(t, 0, line(0, price("1.5")))
	totals(t, 0x3fe0000000000000, line(1, price("0.2")), line(3, price("0.1")))
	totals(t, 0x3fefffffffffffff, line(1, price("0.1")), line(3, price("0.3")))
	totals(t, 0x3ff1999999999999, line(1, price("0.2")), line(3, price("0.3")))
	totals(t, 0x4064d7ffffffffff, line(1, price("0.1")), line(5, price("33.33")))
	totals(t, 0x403ea66666666665, line(1, price("0.2")), line(7, price("4.35")))
	// The order of the lines is that of the sums.
	huge, one := line(1, bits(1<<53)), line(1, bits(1))
	totals(t, bits(1<<53), huge, one, one)
	totals(t, bits(1<<53+2), one, one, huge)
}

func TestP11_3TotalAtTheEdges(t *testing.T) {
	for _, c := range []struct {
		want uint64
		l    []api.Line
	}{
		{0, lines(line(1, minusZero))}, // +0 and -0
		{0, lines(line(0, minusZero), line(-3, zero))},
		{0, lines(line(0, most))},
		{inf, lines(line(1, inf))}, {inf, lines(line(2, most))}, {inf, lines(line(1, most), line(1, most))}, {most, lines(line(1, most), line(1, least))},
		{below, lines(line(-1, inf))}, {below, lines(line(-2, most))}, {below, lines(line(1, below))},
		{nan, lines(line(0, inf))}, {nan, lines(line(0, below))}, {nan, lines(line(1, inf), line(-1, inf))}, {nan, lines(line(1, bits(1)), line(0, inf), line(1, bits(1)))},
		{least, lines(line(1, least))}, {bits(3 * math.SmallestNonzeroFloat64), lines(line(3, least))}, {bits(-math.SmallestNonzeroFloat64), lines(line(-1, least))},
		{bits(-4.5), lines(line(-3, bits(1.5)))}, {bits(4.5), lines(line(-3, bits(-1.5)))},
		// Pieces are the nearest float, of two as near the even one.
		{bits(1 << 53), lines(line(1<<53+1, bits(1)))}, {bits(1<<53 + 4), lines(line(1<<53+3, bits(1)))},
		{bits(1 << 63), lines(line(math.MaxInt, bits(1)))}, {bits(-1 << 63), lines(line(math.MinInt, bits(1)))}, {bits(1e6), lines(line(api.MaxQty, bits(1)))},
	} {
		totals(t, c.want, c.l...)
	}
	for _, b := range nans {
		for _, qty := range []int{math.MinInt, -1, 0, 1, math.MaxInt} {
			totals(t, nan, line(qty, b))
			totals(t, nan, line(2, bits(1)), line(qty, b), line(3, inf))
		}
	}
}

func TestP11_3TotalOfThrown(t *testing.T) {
	g := &dice{x: 131}
	for range 5000 {
		var l []api.Line
		for range g.below(9) {
			l = append(l, line(g.below(2000)-500, g.cents()))
		}
		totals(t, bitsOf(total(l)), l...)
	}
}

func offs(t *testing.T, b uint64, hundredths int, want uint64) {
	t.Helper()
	if got := till.Off(b, hundredths); got != want {
		t.Errorf("Off(%x, %d) = %x, want %x", b, hundredths, got, want)
	}
}

// The bits were worked out elsewhere. By other steps they would be others.
func TestP11_3Off(t *testing.T) {
	tenth := bits(0.1)
	for hundredths, want := range map[int]uint64{69: 0x3f9fbe76c8b4395c, 70: 0x3f9eb851eb851ebc, 71: 0x3f9db22d0e56041c, 72: 0x3f9cac083126e97c, 73: 0x3f9ba5e353f7cedc, 74: 0x3f9a9fbe76c8b43c} {
		offs(t, tenth, hundredths, want)
	}
	offs(t, bits(8), 25, bits(6))
	offs(t, bits(-8), 25, bits(-6))
	offs(t, bits(200), 1, bits(198))
	offs(t, bits(200), 99, bits(200-float64(200*0.99)))
	offs(t, most, 50, bits(math.MaxFloat64/2))
	offs(t, least, 50, least) // half of the least is nought, the even one
	offs(t, least, 51, 0)     // a bit more is the least
}

func TestP11_3OffAtTheEdges(t *testing.T) {
	for _, b := range append(rising(), bits(19.99)) {
		for _, hundredths := range []int{-1, -100, math.MinInt} {
			offs(t, b, hundredths, till.Off(b, 0))
		}
		for _, hundredths := range []int{101, 200, math.MaxInt} {
			offs(t, b, hundredths, till.Off(b, 100))
		}
	}
	for _, hundredths := range []int{math.MinInt, -1, 0, 1, 50, 99, 100, 101, math.MaxInt} {
		for _, b := range nans {
			offs(t, b, hundredths, nan)
		}
		offs(t, inf, hundredths, nan) // inf by nought, or inf less inf
		offs(t, below, hundredths, nan)
		offs(t, zero, hundredths, 0)
		offs(t, minusZero, hundredths, 0)
	}
}

func TestP11_3OffOfThrown(t *testing.T) {
	g := &dice{x: 132}
	for range 20000 {
		b, hundredths := g.cents(), g.below(101)
		f := exact(float(b))
		offs(t, b, hundredths, bitsOf(minus(f, times(f, by(whole(hundredths), whole(100))))))
	}
}

func shares(t *testing.T, l []api.Line, amount uint64, want ...uint64) {
	t.Helper()
	if got := till.Share(l, amount); !slices.Equal(got, want) {
		t.Errorf("Share(%v, %x) = %s, want %s", l, amount, hexes(got), hexes(want))
	}
}

// The bits were worked out elsewhere. By other steps some of them would be others.
func TestP11_4Share(t *testing.T) {
	tenth := bits(0.1)
	shares(t, lines(line(2, bits(1.5)), line(7, bits(0.29))), tenth, 0x3fae896a5ea9fcf4, 0x3fa4a9c8d4893641)
	three := lines(line(1, bits(4.35)), line(5, bits(33.33)), line(2, bits(0.7)))
	shares(t, three, tenth, 0x3f64ab89ae81f5c9, 0x3fb8bf051badcb7f, 0x3f4a9c183bdf3688)
	shares(t, three, bits(19.99), 0x3fe023f268f747d2, 0x403352c27d1d0266, 0x3fc4c749b926cc48)
	shares(t, lines(line(1, bits(3)), line(1, bits(1))), bits(100), bits(75), bits(25))
	shares(t, lines(line(3, bits(2))), bits(-7.5), bits(-7.5))
	shares(t, lines(line(1, bits(4)), line(0, bits(9)), line(-2, bits(1))), bits(8), bits(16), 0, bits(-8))
}

func TestP11_4ShareAtTheEdges(t *testing.T) {
	for _, amount := range append(nans, rising()...) {
		shares(t, nil, amount)
		shares(t, lines(), amount)
		shares(t, lines(line(0, bits(1)), line(3, zero), line(2, minusZero)), amount, nan, nan, nan) // they come to nought
		shares(t, lines(line(1, nans[4]), line(1, bits(1))), amount, nan, nan)
		shares(t, lines(line(0, inf), line(1, bits(1))), amount, nan, nan)
	}
	for _, amount := range nans {
		shares(t, lines(line(1, bits(1)), line(2, bits(5))), amount, nan, nan)
	}
	shares(t, lines(line(1, inf), line(1, bits(1))), bits(3), nan, 0)
	shares(t, lines(line(1, bits(-1)), line(1, inf)), bits(3), minusZero, nan)
	shares(t, lines(line(1, most), line(1, most)), bits(3), 0, 0) // they come to inf
	shares(t, lines(line(1, bits(1)), line(0, bits(1))), inf, inf, nan)
	shares(t, lines(line(1, bits(1)), line(0, bits(1))), minusZero, minusZero, minusZero)
	shares(t, lines(line(1, bits(1)), line(1, bits(-1))), bits(1), inf, below) // they come to nought too, and each is by itself something
}

func TestP11_4ShareOfThrown(t *testing.T) {
	g := &dice{x: 141}
	for range 5000 {
		l, amount := lines(line(1, bits(0.01))), g.cents()
		for range g.below(8) {
			l = append(l, line(g.below(1000), g.cents()))
		}
		sum := total(l)
		var want []uint64
		for _, x := range l {
			want = append(want, bitsOf(times(exact(float(amount)), by(worth(x), sum))))
		}
		shares(t, l, amount, want...)
	}
}

func means(t *testing.T, l []uint64, mean, spread uint64) {
	t.Helper()
	if got := till.Mean(l); got != mean {
		t.Errorf("Mean(%s) = %x, want %x", hexes(l), got, mean)
	}
	if got := till.Spread(l); got != spread {
		t.Errorf("Spread(%s) = %x, want %x", hexes(l), got, spread)
	}
}

// The bits were worked out elsewhere. By other steps, or in another order, some of them would be others.
func TestP11_4MeanAndSpread(t *testing.T) {
	means(t, floats(0.1, 0.2, 0.3), 0x3fc999999999999b, 0x3f7b4e81b4e81b4d)
	means(t, floats(1, 2, 4), 0x4002aaaaaaaaaaab, 0x3ff8e38e38e38e38)
	means(t, floats(0.1, 0.7, 19.99, 4.35), 0x401923d70a3d70a4, 0x405050487fcb923a)
	means(t, floats(33.33, 0.29, 0.7), 0x4026e147ae147ae1, 0x406df3a66f235cb5)
	means(t, floats(0.1, 0.1, 0.1), 0x3fb999999999999b, 0x38f0000000000000)
	means(t, floats(-3, 3), 0, bits(9))
	means(t, floats(-5), bits(-5), 0)
	if got := till.Mean(floats(0.3, 0.2, 0.1)); got != 0x3fc9999999999999 {
		t.Errorf("Mean in another order: %x", got)
	}
}

func TestP11_4MeanAndSpreadAtTheEdges(t *testing.T) {
	means(t, nil, nan, nan)
	means(t, []uint64{}, nan, nan)
	means(t, []uint64{minusZero}, 0, 0) // +0 and -0
	means(t, []uint64{minusZero, zero}, 0, 0)
	means(t, []uint64{least}, least, 0)
	means(t, []uint64{least, zero}, 0, 0) // half of the least is nought
	means(t, []uint64{most}, most, 0)
	means(t, []uint64{most, most}, inf, inf) // most less inf, by itself
	means(t, []uint64{most, bits(-math.MaxFloat64)}, 0, inf)
	for _, b := range []uint64{inf, below} {
		means(t, []uint64{b}, b, nan)
		means(t, []uint64{b, bits(1)}, b, nan)
	}
	means(t, []uint64{inf, below}, nan, nan)
	for _, b := range nans {
		means(t, []uint64{b}, nan, nan)
		means(t, []uint64{bits(1), b, bits(2)}, nan, nan)
	}
}

func TestP11_4MeanAndSpreadOfThrown(t *testing.T) {
	g := &dice{x: 142}
	for range 5000 {
		l := []uint64{g.cents()}
		for range g.below(9) {
			l = append(l, bits(float(g.cents())*float64(1-2*g.below(2))))
		}
		means(t, l, bitsOf(mean(l)), bitsOf(spread(l)))
	}
}

func TestP11_7NeverBelow(t *testing.T) {
	prices := slices.DeleteFunc(rising(), func(b uint64) bool { return !(float(b) >= 0) })
	g, none := &dice{x: 117}, 0
	for range 30000 {
		var l []api.Line
		endless := false
		for range g.below(6) {
			x := line([]int{0, 1, g.below(api.MaxQty), api.MaxQty, math.MaxInt}[g.below(5)], prices[g.below(len(prices))])
			if g.below(2) > 0 {
				x.Price = g.cents()
			}
			endless = endless || x.Qty == 0 && x.Price == inf
			l = append(l, x)
		}
		got := till.Total(l)
		if endless && got != nan || !endless && !till.Can(got) || got == minusZero {
			t.Fatalf("Total(%v) = %x", l, got)
		}
		if endless {
			none++
		}
	}
	if none < 100 {
		t.Errorf("only %d totals are no number", none)
	}
}

func TestP11_8AllOrNothingOff(t *testing.T) {
	g := &dice{x: 118}
	l := append(rising(), bits(19.99))
	for range 20000 {
		l = append(l, g.any(), g.cents())
	}
	for _, b := range l {
		if f := float(b); math.IsInf(f, 0) || f != f {
			continue
		}
		offs(t, b, 100, 0)
		if b == minusZero {
			offs(t, b, 0, 0)
		} else {
			offs(t, b, 0, b)
		}
	}
}

// Nothing that is handed in is changed, and no two answers share their memory.
func TestMemory(t *testing.T) {
	l := append(make([]api.Line, 0, 9), line(2, bits(1.5)), line(7, bits(0.29)))
	numbers := append(make([]uint64, 0, 9), floats(1, 2, 4)...)
	lWas, nWas := slices.Clone(l[:9]), slices.Clone(numbers[:9])
	a, b := till.Share(l, bits(3)), till.Share(l, bits(3))
	till.Total(l)
	till.Mean(numbers)
	till.Spread(numbers)
	if !slices.Equal(l[:9], lWas) || !slices.Equal(numbers[:9], nWas) {
		t.Errorf("what was handed in is %v and %v", l[:9], numbers[:9])
	}
	was := slices.Clone(b)
	for i := range a[:cap(a)] {
		a[:cap(a)][i] = 7
	}
	if !slices.Equal(b, was) {
		t.Errorf("an answer is %s, and was %s", hexes(b), hexes(was))
	}
}

func TestExamplesOfTheDocument(t *testing.T) {
	isPrice(t, "0.1", 0x3fb999999999999a)
	prints(t, 0x3fb999999999999a, "0.10")
	for _, s := range []string{"01", "1.", ".5", "1e3", "1234567890"} {
		isNone(t, s)
	}
	totals(t, 0x3fe0000000000000, api.Line{Item: "bread", Qty: 1, Price: bits(0.2)}, api.Line{Item: "milk", Qty: 3, Price: bits(0.1)})
	totals(t, nan, line(0, inf))
	means(t, nil, nan, nan)
	shares(t, lines(line(0, bits(1)), line(1, 0)), bits(5), nan, nan)
}
