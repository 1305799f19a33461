package ident_test

import (
	"bytes"
	"encoding/binary"
	"hash/fnv"
	"math"
	"strings"
	"testing"

	"trolley/api"
	"trolley/ident"
)

// hashOf is the hash as the document says it, made without the package.
func hashOf(b []byte) uint64 {
	f := fnv.New64a()
	f.Write(b)
	h := f.Sum64()
	h ^= h >> 33
	h *= 0xff51afd7ed558ccd
	h ^= h >> 33
	h *= 0xc4ceb9fe1a85ec53
	h ^= h >> 33
	return h
}

func mixOf(a, b uint64) uint64 {
	return hashOf(binary.BigEndian.AppendUint64(binary.BigEndian.AppendUint64(nil, a), b))
}

// thrown is so many bytes that look thrown.
func thrown(n int) []byte {
	b := make([]byte, n)
	x := uint64(n)
	for i := range b {
		x = x*6364136223846793005 + 1442695040888963407
		b[i] = byte(x >> 56)
	}
	return b
}

// known are hashes that were worked out elsewhere.
var known = []struct {
	text string
	hash uint64
}{
	{"", 0xefd01f60ba992926},
	{"a", 0x82a2a958a9bece5b},
	{"b", 0x6e673288764ad2d0},
	{"ab", 0xda71cbd11dd9bde4},
	{"ba", 0x0679519be9cf602c},
	{"cart-1", 0x204430ecde121ee2},
	{"\x00", 0xb9034ad37056f5fb},
	{"\x00\x00", 0xdb01c3104e99566d},
	{"\xff", 0x1bbd5c813c69a8d7},
}

func TestP4_2Hash(t *testing.T) {
	for _, k := range known {
		if h := ident.Hash([]byte(k.text)); h != k.hash {
			t.Errorf("Hash(%q): %x", k.text, h)
		}
	}
	if ident.Hash(nil) != ident.Hash([]byte{}) {
		t.Error("nil and empty are not the same")
	}
	for n := range 600 {
		if b := thrown(n); ident.Hash(b) != hashOf(b) {
			t.Fatalf("Hash(%x): %x", b, ident.Hash(b))
		}
	}
	for _, n := range []int{1 << 16, 1 << 20} {
		if b := thrown(n); ident.Hash(b) != hashOf(b) {
			t.Errorf("Hash of %d bytes: %x", n, ident.Hash(b))
		}
	}
}

func TestP4_2Memory(t *testing.T) {
	b := append(make([]byte, 0, 16), "abc"...)
	h := ident.Hash(b)
	if !bytes.Equal(b[:16], append([]byte("abc"), make([]byte, 13)...)) || ident.Hash(b) != h {
		t.Error("Hash changes what is handed in")
	}
	b[0] = 'x'
	if ident.Hash(b) != hashOf([]byte("xbc")) {
		t.Error("Hash keeps what is handed in")
	}
}

func TestP4_3Mix(t *testing.T) {
	cases := []struct{ a, b, want uint64 }{
		{0, 0, 0xa5e0dba6c385580a},
		{0, 1, 0xb55b74000d560088},
		{1, 0, 0xd1108a8bec2b47fa},
		{1, 2, 0x51e4e2edd2bc2411},
		{0x0123456789abcdef, 0xfedcba9876543210, 0x9b17547282657f63},
		{math.MaxUint64, math.MaxUint64, 0xb985182d97d9d96f},
	}
	for _, c := range cases {
		if h := ident.Mix(c.a, c.b); h != c.want {
			t.Errorf("Mix(%x, %x): %x", c.a, c.b, h)
		}
	}
	for i := range 64 {
		for j := range 64 {
			if a, b := uint64(1)<<i, uint64(1)<<j; ident.Mix(a, b) != mixOf(a, b) {
				t.Errorf("Mix(%x, %x): %x", a, b, ident.Mix(a, b))
			}
		}
	}
}

func TestP4_3Position(t *testing.T) {
	for _, k := range known {
		if h := ident.Position(k.text); h != k.hash {
			t.Errorf("Position(%q): %x", k.text, h)
		}
	}
	for _, text := range []string{"a b", "é", "\xff\xfe", strings.Repeat("k", 33), strings.Repeat("k", 1<<16), string(thrown(999))} {
		if ident.Position(text) != hashOf([]byte(text)) {
			t.Errorf("Position(%.20q): %x", text, ident.Position(text))
		}
	}
}

func TestP4_3Point(t *testing.T) {
	for node := range api.MaxNodes {
		for i := range api.MaxSpots {
			if h := ident.Point(node, i); h != mixOf(uint64(node)+1, uint64(i)) || h == 0 {
				t.Errorf("Point(%d, %d): %x", node, i, h)
			}
		}
	}
	cases := []struct {
		node, i int
		want    uint64
	}{
		{0, 0, 0xd1108a8bec2b47fa}, {0, 15, 0xfd04804e0dca76cb}, {7, 0, 0x0fb68190f17c40bf},
		{7, 15, 0x8ff412108b92dcdb}, {3, 4, 0xbfaa2358a1e8e2bb},
		{8, 0, 0}, {7, 16, 0}, {0, 16, 0}, {-1, 0, 0}, {0, -1, 0}, {8, 16, 0}, {-1, -1, 0},
		{math.MinInt, 0, 0}, {math.MaxInt, 0, 0}, {0, math.MinInt, 0}, {0, math.MaxInt, 0},
	}
	for _, c := range cases {
		if h := ident.Point(c.node, c.i); h != c.want {
			t.Errorf("Point(%d, %d): %x", c.node, c.i, h)
		}
	}
}

func TestP4_8ByteByByte(t *testing.T) {
	of := map[uint64]string{}
	add := func(text string) {
		h := ident.Hash([]byte(text))
		if other, there := of[h]; there {
			t.Errorf("%q and %q have one hash", text, other)
		}
		of[h] = text
	}
	add("")
	for x := range 256 {
		add(string([]byte{byte(x)}))
	}
	for x := range 256 {
		for y := range 256 {
			add(string([]byte{byte(x), byte(y)}))
		}
	}
	text := thrown(40)
	add(string(text))
	for i := range text {
		for _, x := range []byte{1, 0x10, 0x80, 0xff} {
			turned := bytes.Clone(text)
			turned[i] ^= x
			add(string(turned))
		}
		add(string(text[:i]) + "\x00" + string(text[i:]))
	}
	for i := 2; i < len(text); i++ {
		add(string(text[i:]) + string(text[:i]))
	}
}
