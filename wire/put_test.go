package wire_test

import (
	"bytes"
	"hash/crc32"
	"math"
	"strings"
	"testing"

	"trolley/wire"
)

// forms are numbers at the edges of one to nine bytes, as the document's forms write them.
var forms = []struct {
	n    int
	form []byte
}{
	{0, []byte{0}},
	{1, []byte{1}},
	{127, []byte{0x7f}},
	{128, []byte{0x80, 1}},
	{300, []byte{0xac, 2}},
	{1<<14 - 1, []byte{0xff, 0x7f}},
	{1 << 14, []byte{0x80, 0x80, 1}},
	{1<<21 - 1, []byte{0xff, 0xff, 0x7f}},
	{1 << 21, []byte{0x80, 0x80, 0x80, 1}},
	{1<<28 - 1, []byte{0xff, 0xff, 0xff, 0x7f}},
	{1 << 28, []byte{0x80, 0x80, 0x80, 0x80, 1}},
	{1<<35 - 1, []byte{0xff, 0xff, 0xff, 0xff, 0x7f}},
	{1 << 35, []byte{0x80, 0x80, 0x80, 0x80, 0x80, 1}},
	{1<<42 - 1, []byte{0xff, 0xff, 0xff, 0xff, 0xff, 0x7f}},
	{1 << 42, []byte{0x80, 0x80, 0x80, 0x80, 0x80, 0x80, 1}},
	{1<<49 - 1, []byte{0xff, 0xff, 0xff, 0xff, 0xff, 0xff, 0x7f}},
	{1 << 49, []byte{0x80, 0x80, 0x80, 0x80, 0x80, 0x80, 0x80, 1}},
	{1<<56 - 1, []byte{0xff, 0xff, 0xff, 0xff, 0xff, 0xff, 0xff, 0x7f}},
	{1 << 56, []byte{0x80, 0x80, 0x80, 0x80, 0x80, 0x80, 0x80, 0x80, 1}},
	{math.MaxInt, []byte{0xff, 0xff, 0xff, 0xff, 0xff, 0xff, 0xff, 0xff, 0x7f}},
}

// ahead are bytes that stand there already; the last has room behind, and something in it.
func ahead() [][]byte {
	roomy := append(make([]byte, 0, 99), 1, 2, 3, 4, 5, 6, 7, 8, 9, 10, 11, 12, 13)
	return [][]byte{nil, {}, {7}, {0x80, 0xff, 0}, roomy[:2]}
}

func TestP1_1Put(t *testing.T) {
	for _, f := range forms {
		for _, b := range ahead() {
			want := append(bytes.Clone(b), f.form...)
			if got := wire.Put(b, f.n); !bytes.Equal(got, want) {
				t.Errorf("Put(%x, %d) = %x, want %x", b, f.n, got, want)
			}
		}
	}
}

func TestP1_1PutBelowNought(t *testing.T) {
	for _, n := range []int{-1, -128, -1 << 40, math.MinInt} {
		if got := wire.Put([]byte{9}, n); !bytes.Equal(got, []byte{9, 0}) {
			t.Errorf("Put(.., %d) = %x", n, got)
		}
	}
}

func TestP1_1Text(t *testing.T) {
	long := strings.Repeat("x", 200)
	cases := []struct {
		s    string
		form []byte
	}{
		{"", []byte{0}},
		{"ab", []byte{2, 'a', 'b'}},
		{"\x00\xff\x80", []byte{3, 0, 0xff, 0x80}},
		{"é", []byte{2, 0xc3, 0xa9}},
		{long[:127], append([]byte{127}, long[:127]...)},
		{long[:128], append([]byte{0x80, 1}, long[:128]...)},
		{long, append([]byte{0xc8, 1}, long...)},
	}
	for _, c := range cases {
		for _, b := range ahead() {
			want := append(bytes.Clone(b), c.form...)
			if got := wire.Text(b, c.s); !bytes.Equal(got, want) {
				t.Errorf("Text(%x, %q) = %x, want %x", b, c.s, got, want)
			}
		}
	}
}

// fill writes over a list and the room behind it, to see who else has that memory.
func fill(b []byte, x byte) {
	b = b[:cap(b)]
	for i := range b {
		b[i] = x
	}
}

func TestP1_1NewMemory(t *testing.T) {
	puts := map[string]func(b []byte) []byte{
		"Put":  func(b []byte) []byte { return wire.Put(b, 300) },
		"Text": func(b []byte) []byte { return wire.Text(b, "abc") },
	}
	for name, put := range puts {
		for _, b := range ahead() {
			whole := bytes.Clone(b[:cap(b)])
			got := put(b)
			want := bytes.Clone(got)
			if !bytes.Equal(b[:cap(b)], whole) {
				t.Errorf("%s(%x) changed what was handed in", name, whole)
			}
			fill(got, 0xee)
			if !bytes.Equal(b[:cap(b)], whole) {
				t.Errorf("%s(%x) answers the memory that was handed in", name, whole)
			}
			got = put(b)
			fill(b, 0xdd)
			if !bytes.Equal(got, want) {
				t.Errorf("%s(%x) keeps the memory that was handed in", name, whole)
			}
		}
	}
}

func TestP1_1Sum(t *testing.T) {
	cases := []struct {
		b   string
		sum int
	}{
		{"", 0},
		{"a", 0xe8b7be43},
		{"123456789", 0xcbf43926},
		{"\x00", 0xd202ef8d},
		{"\xff\xff\xff\xff", 0xffffffff},
	}
	for _, c := range cases {
		if got := wire.Sum([]byte(c.b)); got != c.sum {
			t.Errorf("Sum(%q) = %x, want %x", c.b, got, c.sum)
		}
	}
	if wire.Sum(nil) != 0 {
		t.Error("Sum of nil")
	}
}

// The library's sum of the same kind is the other one to hold against.
func TestP1_1SumOfMany(t *testing.T) {
	b := make([]byte, 1000)
	for i := range b {
		b[i] = byte(i*i + i/7)
	}
	was := bytes.Clone(b)
	for n := range b {
		if got := wire.Sum(b[:n]); got != int(crc32.ChecksumIEEE(b[:n])) {
			t.Fatalf("Sum of %d bytes = %x", n, got)
		}
	}
	if !bytes.Equal(b, was) {
		t.Error("Sum changed what was handed in")
	}
}
