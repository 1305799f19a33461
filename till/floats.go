package till

import (
	"math"

	"trolley/api"
)

// noNumber stands for whatever is no number, so that what is told hangs on no machine's own.
const noNumber = 0x7ff8000000000001

func floatOf(bits uint64) float64 { return math.Float64frombits(bits) }

func floatsOf(l []uint64) []float64 {
	var numbers []float64
	for _, bits := range l {
		numbers = append(numbers, floatOf(bits))
	}
	return numbers
}

func bitsOf(f float64) uint64 {
	if math.IsNaN(f) {
		return noNumber
	}
	return math.Float64bits(f)
}

// total is added up in the lines' order, each step rounded by itself.
func total(l []api.Line) float64 {
	t := 0.0
	for _, line := range l {
		t += worth(line)
	}
	return t
}

// worth is what a line comes to. Without the conversion a machine may put the product and the sum that it goes into in one step, which is rounded once.
func worth(line api.Line) float64 {
	return float64(float64(line.Qty) * floatOf(line.Price))
}

// mean of none is nought by nought, which is no number.
func mean(numbers []float64) float64 {
	sum := 0.0
	for _, x := range numbers {
		sum += x
	}
	return sum / float64(len(numbers))
}

func areDigits(s string, most int) bool {
	if len(s) < 1 || len(s) > most {
		return false
	}
	for _, c := range []byte(s) {
		if c < '0' || c > '9' {
			return false
		}
	}
	return true
}
