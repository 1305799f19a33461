package till_test

import (
	"testing"

	"trolley/till"
)

// ordered is numbers, rising, with how they stand: whatever is no number stands below all others, in one place.
func ordered() (l []uint64, places []int) {
	for _, b := range nans {
		l, places = append(l, b), append(places, 0)
	}
	for i, b := range rising() {
		l, places = append(l, b), append(places, i+1)
	}
	return l, places
}

func orders(t *testing.T, a, b uint64, want int) {
	t.Helper()
	if got := till.Order(a, b); got != want {
		t.Errorf("Order(%x, %x) = %d, want %d", a, b, got, want)
	}
}

func TestP11_2Order(t *testing.T) {
	l, places := ordered()
	for i, a := range l {
		for j, b := range l {
			want := 0
			switch {
			case places[i] < places[j]:
				want = -1
			case places[i] > places[j]:
				want = 1
			}
			orders(t, a, b, want)
		}
	}
	orders(t, minusZero, zero, -1)
	orders(t, zero, minusZero, 1)
	orders(t, bits(2), bits(10), -1)
	orders(t, bits(-2), bits(-10), 1)
}

func TestP11_2OrderOfThrown(t *testing.T) {
	g := &dice{x: 121}
	for range 50000 {
		a, b := g.any(), g.any()
		switch x, y := float(a), float(b); {
		case x != x && y != y, a == b:
			orders(t, a, b, 0)
		case x != x, x < y:
			orders(t, a, b, -1)
		case y != y, x > y:
			orders(t, a, b, 1)
		case a == minusZero:
			orders(t, a, b, -1)
		default:
			orders(t, a, b, 1)
		}
	}
}

func TestP11_6AnOrder(t *testing.T) {
	g := &dice{x: 116}
	l, _ := ordered()
	for range 40 {
		l = append(l, g.any(), g.word(), g.cents())
	}
	for _, a := range l {
		for _, b := range l {
			ab := till.Order(a, b)
			if ab < -1 || ab > 1 || ab != -till.Order(b, a) {
				t.Fatalf("Order(%x, %x) = %d, turned round %d", a, b, ab, till.Order(b, a))
			}
			if alike := a == b || !isNumber(a) && !isNumber(b); alike != (ab == 0) {
				t.Fatalf("Order(%x, %x) = %d", a, b, ab)
			}
			for _, c := range l {
				if ab <= 0 && till.Order(b, c) <= 0 && till.Order(a, c) > 0 {
					t.Fatalf("%x, %x and %x go round", a, b, c)
				}
			}
		}
	}
}
