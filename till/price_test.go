package till_test

import (
	"math"
	"math/big"
	"regexp"
	"strconv"
	"strings"
	"testing"

	"trolley/till"
)

func isPrice(t *testing.T, s string, want uint64) {
	t.Helper()
	if price, ok := till.Price(s); !ok || price != want {
		t.Errorf("Price(%q) = %x, %v, want %x", s, price, ok, want)
	}
}

func isNone(t *testing.T, s string) {
	t.Helper()
	if price, ok := till.Price(s); ok || price != 0 {
		t.Errorf("Price(%q) = %x, %v", s, price, ok)
	}
}

// The bits were worked out elsewhere.
func TestP11_1Price(t *testing.T) {
	for s, want := range map[string]uint64{
		"0": 0, "0.0": 0, "0.000000": 0, "1": 0x3ff0000000000000, "0.1": 0x3fb999999999999a, "0.10": 0x3fb999999999999a, "0.100000": 0x3fb999999999999a,
		"0.2": 0x3fc999999999999a, "1.5": 0x3ff8000000000000, "0.000001": 0x3eb0c6f7a0b5ed8d, "0.29": 0x3fd28f5c28f5c28f, "1.005": 0x3ff0147ae147ae14,
		"33.33": 0x4040aa3d70a3d70a, "7.000000": 0x401c000000000000, "4.35": 0x4011666666666666, "999999999": 0x41cdcd64ff800000,
		"999999999.99": 0x41cdcd64fffeb852, "999999999.999999": 0x41cdcd64fffffff8, "123456789.123456": 0x419d6f34547e6b40,
	} {
		isPrice(t, s, want)
	}
}

// The nearest float to a decimal number is that of the number as a fraction.
func TestP11_1NearestPrice(t *testing.T) {
	g := &dice{x: 111}
	for i := range 20000 {
		s := g.text(i % 7)
		r, _ := new(big.Rat).SetString(s)
		f, _ := r.Float64()
		isPrice(t, s, bits(f))
	}
}

func TestP11_1NoPrice(t *testing.T) {
	for _, s := range []string{
		"", ".", "1.", ".5", "1..5", "1.2.3", "01", "00", "00.5", "01.5", "1e3", "1E3", "0x10", "1_000", "1,5", "+1", "-1", "-0", "-0.5", " 1", "1 ", "1. 5", "1.-5", "1.+5",
		"nan", "NaN", "inf", "Inf", "-inf", "Infinity", "big", "1234567890", "0000000001", "1234567890.5", "0.1234567", "1.0000000", "999999999.9999999", "1.5e0", "1\x00", "\x001", "1\n",
		"٣", "３", "½", "1.٣", "\xff", "1\xff", "/", ":", "1/", "1:", "1.5/", "1.5:", "5.", "a", "1a", "a1", "1.a", "0.", "0..", "$1", "1.5.",
		strings.Repeat("1", 1<<16), strings.Repeat("0", 1<<16), "0." + strings.Repeat("0", 1<<16), strings.Repeat(".", 1<<16), "1." + strings.Repeat(".", 1<<16),
	} {
		isNone(t, s)
	}
	for n := range 256 {
		if n < '0' || n > '9' {
			for _, s := range []string{"%", "1%", "%1", "1%1", "1.%", "1.%1", "1.1%", "%.1"} {
				isPriceOrNone(t, strings.ReplaceAll(s, "%", string([]byte{byte(n)})))
			}
		}
	}
}

var form = regexp.MustCompile(`\A(0|[1-9][0-9]{0,8})(\.[0-9]{1,6})?\z`)

func isPriceOrNone(t *testing.T, s string) {
	t.Helper()
	if !form.MatchString(s) {
		isNone(t, s)
		return
	}
	f, _ := strconv.ParseFloat(s, 64)
	isPrice(t, s, bits(f))
}

// All texts of a few letters, up to a length.
func TestP11_1AllTexts(t *testing.T) {
	texts := []string{""}
	for range 7 {
		var longer []string
		for _, s := range texts {
			isPriceOrNone(t, s)
			for _, c := range "019.-" {
				longer = append(longer, s+string(c))
			}
		}
		texts = longer
	}
}

// Each number of digits ahead of the point and behind it, one more than may be among them.
func TestP11_1Lengths(t *testing.T) {
	for ahead := range 12 {
		for behind := range 9 {
			for _, digit := range []string{"1", "9"} {
				s := strings.Repeat(digit, ahead)
				isPriceOrNone(t, s+"."+strings.Repeat(digit, behind))
				if behind == 0 {
					isPriceOrNone(t, s)
				}
			}
		}
	}
}

func TestP11_1Can(t *testing.T) {
	for i, b := range rising() {
		if want := i >= 9; till.Can(b) != want { // -0 is the tenth
			t.Errorf("Can(%x) is %v", b, !want)
		}
	}
	for _, b := range nans {
		if till.Can(b) {
			t.Errorf("Can(%x), which is no number", b)
		}
	}
	g := &dice{x: 112}
	for range 10000 {
		b := g.any()
		if f := float(b); till.Can(b) != (f >= 0) {
			t.Errorf("Can(%x) is %v", b, till.Can(b))
		}
	}
}

func prints(t *testing.T, b uint64, want string) {
	t.Helper()
	if got := till.Print(b); got != want {
		t.Errorf("Print(%x), of %v, = %q, want %q", b, float(b), got, want)
	}
}

func TestP11_1Print(t *testing.T) {
	for _, b := range nans {
		prints(t, b, "nan")
	}
	for s, f := range map[string]float64{
		"0.00": 0, "-0.00": math.Copysign(0, -1), "inf": math.Inf(1), "-inf": math.Inf(-1), "0.10": 0.1, "1.50": 1.5, "0.01": 0.01, "0.09": 0.09, "0.99": 0.99, "1.00": 1, "12.34": 12.34,
		"-0.10": -0.1, "-12.34": -12.34, "999999999.99": 999999999.99, "0.29": 0.29, "4.35": 4.35, "10.00": 9.999, "9.99": 9.994, "1000.00": 999.999, "100.05": 100.05,
	} {
		prints(t, bits(f), s)
	}
	for _, c := range []struct {
		f float64
		s string
	}{
		{math.SmallestNonzeroFloat64, "0.00"}, {-math.SmallestNonzeroFloat64, "-0.00"}, {-0.001, "-0.00"}, {0x1p-1022, "0.00"},
		{0.125, "0.12"}, {0.375, "0.38"}, {0.625, "0.62"}, {0.875, "0.88"}, {-0.125, "-0.12"}, {1.125, "1.12"}, {0.005, "0.00"}, {0.015, "0.02"}, // just between two
		{1.005, "1.00"}, // a product of 100.49999999999999
		{math.MaxFloat64, "big"}, {-math.MaxFloat64, "big"}, {1e300, "big"}, {1e307, "big"}, {-1e15, "big"},
		{90071992547409.75, "90071992547409.75"},
	} {
		prints(t, bits(c.f), c.s)
	}
}

// The product is what is held against 2^53, of which the last float below it is by 1 less.
func TestP11_1PrintAtTheEdge(t *testing.T) {
	edge := float64(1<<53) / 100
	seen := map[string]int{}
	for f, n := math.Nextafter(edge, 0), 0; n < 3; n++ {
		for _, sign := range []float64{1, -1} {
			s := till.Print(bits(sign * f))
			if product := f * 100; product >= 1<<53 {
				prints(t, bits(sign*f), "big")
				seen["big"]++
			} else {
				digits := strconv.Itoa(int(product))
				prints(t, bits(sign*f), map[float64]string{1: "", -1: "-"}[sign]+digits[:len(digits)-2]+"."+digits[len(digits)-2:])
				seen[s]++
			}
		}
		f = math.Nextafter(f, math.Inf(1))
	}
	if seen["big"] == 0 || seen["90071992547409.91"] == 0 || seen["-90071992547409.91"] == 0 {
		t.Errorf("%v", seen)
	}
}

// Digits without a point tell a number to the nearest whole one, of two as near the even one.
func TestP11_1PrintOfThrown(t *testing.T) {
	g, told := &dice{x: 113}, map[string]int{}
	for i := range 30000 {
		b := g.any()
		if i%2 > 0 {
			b = bits(float64(g.below(1<<20)) / float64(int(1)<<g.below(12)))
		}
		f := float(b)
		s := strconv.FormatFloat(math.Abs(f)*100, 'f', 0, 64)
		for len(s) < 3 {
			s = "0" + s
		}
		s = s[:len(s)-2] + "." + s[len(s)-2:]
		switch {
		case f != f:
			s = "nan"
		case f > math.MaxFloat64:
			s = "inf"
		case f < -math.MaxFloat64:
			s = "-inf"
		case math.Abs(f)*100 >= 1<<53:
			s = "big"
		case math.Signbit(f):
			s = "-" + s
		}
		prints(t, b, s)
		told[s]++
	}
	if told["nan"] == 0 || told["inf"] == 0 || told["-inf"] == 0 || told["big"] == 0 || told["-0.00"] == 0 || told["0.00"] == 0 {
		t.Error("not all kinds were thrown")
	}
}

func TestP11_5ThereAndBack(t *testing.T) {
	goes := func(s string) {
		t.Helper()
		price, ok := till.Price(s)
		back, is := till.Price(till.Print(price))
		if !ok || !is || back != price {
			t.Fatalf("%q: %x, %v, printed %q: %x, %v", s, price, ok, till.Print(price), back, is)
		}
	}
	for _, s := range []string{"0", "0.0", "0.00", "0.01", "0.1", "0.99", "1", "999999999", "999999999.9", "999999999.99", "999999998.01", "536870912.01", "536870911.99"} {
		goes(s)
	}
	for n := range 1000000 {
		goes(strconv.Itoa(n/100) + "." + strconv.Itoa(n/10%10) + strconv.Itoa(n%10))
	}
	g := &dice{x: 115}
	for i := range 300000 {
		goes(g.text(i % 3))
		n := 999999999 - g.below(100000)
		goes(strconv.Itoa(n) + "." + strconv.Itoa(g.below(10)) + strconv.Itoa(g.below(10)))
	}
}
