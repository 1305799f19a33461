package ident_test

import (
	"math"
	"math/big"
	"testing"

	"trolley/api"
	"trolley/ident"
)

// rightParts are all numbers of partitions that there may be.
var rightParts = []int{1, 2, 4, 8, 16, 32, 64}

// wrongParts are some below, between and above.
func wrongParts() []int {
	l := []int{-1, -2, -64, 0, 127, 128, 256, 1 << 20, 1 << 32, 1<<32 + 1, 1 << 62, math.MinInt, math.MinInt + 1, math.MaxInt, api.MaxParts + 1}
	for n := range api.MaxParts {
		if n&(n-1) != 0 {
			l = append(l, n)
		}
	}
	return l
}

// startOf is part of parts of 2^64, in whole numbers of any size.
func startOf(part, parts int) *big.Int {
	all := new(big.Int).Lsh(big.NewInt(1), 64)
	return all.Div(all.Mul(all, big.NewInt(int64(part))), big.NewInt(int64(parts)))
}

// positions are at and around where partitions begin, and between.
func positions() []uint64 {
	l := []uint64{0, 1, 2, math.MaxUint64, math.MaxUint64 - 1, 0x0123456789abcdef, 0xfedcba9876543210}
	for i := uint64(1); i < 128; i++ {
		l = append(l, i<<57-1, i<<57, i<<57+1, i<<57+i*i)
	}
	return l
}

func TestP4_4Partition(t *testing.T) {
	for _, parts := range rightParts {
		for _, p := range positions() {
			n, there := ident.Partition(p, parts)
			if !there || n < 0 || n >= parts {
				t.Fatalf("Partition(%x, %d): %d, %v", p, parts, n, there)
			}
			at := new(big.Int).SetUint64(p)
			if at.Cmp(startOf(n, parts)) < 0 || at.Cmp(startOf(n+1, parts)) >= 0 {
				t.Errorf("Partition(%x, %d): %d", p, parts, n)
			}
		}
	}
	for _, parts := range wrongParts() {
		for _, p := range []uint64{0, 1, 1 << 63, math.MaxUint64} {
			if n, there := ident.Partition(p, parts); n != 0 || there {
				t.Errorf("Partition(%x, %d): %d, %v", p, parts, n, there)
			}
		}
	}
}

func TestP4_4Start(t *testing.T) {
	for _, parts := range rightParts {
		for part := range parts {
			if p, there := ident.Start(part, parts); !there || p != startOf(part, parts).Uint64() {
				t.Errorf("Start(%d, %d): %x, %v", part, parts, p, there)
			}
		}
		for _, part := range []int{-1, -parts, parts, parts + 1, 64, 1 << 32, math.MinInt, math.MaxInt} {
			if p, there := ident.Start(part, parts); p != 0 || there {
				t.Errorf("Start(%d, %d): %x, %v", part, parts, p, there)
			}
		}
	}
	for _, parts := range wrongParts() {
		for _, part := range []int{-1, 0, 1, parts - 1, parts} {
			if p, there := ident.Start(part, parts); p != 0 || there {
				t.Errorf("Start(%d, %d): %x, %v", part, parts, p, there)
			}
		}
	}
}

func TestP4_5PartitionThereAndBack(t *testing.T) {
	for _, parts := range rightParts {
		for part := range parts {
			p, _ := ident.Start(part, parts)
			if n, there := ident.Partition(p, parts); n != part || !there {
				t.Errorf("Partition(Start(%d, %d)): %d, %v", part, parts, n, there)
			}
		}
	}
}

func TestP4_6SideBySide(t *testing.T) {
	for _, parts := range rightParts {
		for _, p := range positions() {
			n, _ := ident.Partition(p, parts)
			from, there := ident.Start(n, parts)
			if !there || p < from {
				t.Errorf("%x lies below the partition %d of %d", p, n, parts)
			}
			to, more := ident.Start(n+1, parts)
			if more != (n+1 < parts) || more && p >= to {
				t.Errorf("%x lies above the partition %d of %d", p, n, parts)
			}
		}
	}
}

func TestP4_7Halves(t *testing.T) {
	for _, parts := range rightParts[1:] {
		for _, p := range positions() {
			whole, _ := ident.Partition(p, parts)
			half, there := ident.Partition(p, parts/2)
			if !there || half != whole/2 {
				t.Errorf("%x: %d of %d, %d of %d", p, whole, parts, half, parts/2)
			}
		}
	}
}

func TestExamplesOfTheDocument(t *testing.T) {
	name, _ := ident.Name(3)
	_, there := ident.Node("n8")
	if name != "n3" || there {
		t.Error(name, there)
	}
	if !ident.IsKey("cart-1") || ident.IsKey("") || ident.IsKey("a b") {
		t.Error("IsKey")
	}
	if ident.Hash(nil) != hashOf(nil) {
		t.Errorf("Hash of nothing: %x", ident.Hash(nil))
	}
	part, _ := ident.Partition(1<<63, 2)
	start, _ := ident.Start(3, 4)
	if part != 1 || start != 0xc000000000000000 {
		t.Errorf("%d, %x", part, start)
	}
}
