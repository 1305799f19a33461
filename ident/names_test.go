package ident_test

import (
	"math"
	"strings"
	"testing"

	"trolley/api"
	"trolley/ident"
)

func TestP4_1Name(t *testing.T) {
	names := []string{"n0", "n1", "n2", "n3", "n4", "n5", "n6", "n7"}
	if len(names) != api.MaxNodes {
		t.Fatal("other nodes than the test knows")
	}
	for node, want := range names {
		if name, there := ident.Name(node); name != want || !there {
			t.Errorf("Name(%d): %q, %v", node, name, there)
		}
		if got, there := ident.Node(want); got != node || !there {
			t.Errorf("Node(%q): %d, %v", want, got, there)
		}
	}
	for _, node := range []int{-1, -2, api.MaxNodes, api.MaxNodes + 1, 10, 1 << 32, math.MinInt, math.MaxInt} {
		if name, there := ident.Name(node); name != "" || there {
			t.Errorf("Name(%d): %q, %v", node, name, there)
		}
	}
}

func TestP4_1Node(t *testing.T) {
	wrong := []string{"", "n", "n8", "n9", "n00", "n01", "n10", "n-1", "n+1", "N0", "0", "00", "m0", " n0", "n0 ", "n 0", "n/", "n:",
		"nn", "n0n", "n\x00", "n\xff", "n٣", "0n", strings.Repeat("n", 1<<16), "n" + strings.Repeat("0", 1<<16) + "1"}
	for _, name := range wrong {
		if node, there := ident.Node(name); node != 0 || there {
			t.Errorf("Node(%.20q): %d, %v", name, node, there)
		}
	}
	for c := range 256 {
		want := '0' <= c && c <= '7'
		if node, there := ident.Node("n" + string([]byte{byte(c)})); there != want || want && node != c-'0' || !want && node != 0 {
			t.Errorf("Node of n and the byte %d: %d, %v", c, node, there)
		}
		if _, there := ident.Node(string([]byte{byte(c), '3'})); there != (c == 'n') {
			t.Errorf("Node of the byte %d and 3: %v", c, there)
		}
	}
}

func TestP4_1IsKey(t *testing.T) {
	const letters = "ABCDEFGHIJKLMNOPQRSTUVWXYZabcdefghijklmnopqrstuvwxyz0123456789.-_"
	for c := range 256 {
		s := string([]byte{byte(c)})
		want := strings.Contains(letters, s)
		for _, key := range []string{s, "a" + s, s + "a", strings.Repeat("a", 31) + s} {
			if ident.IsKey(key) != want {
				t.Errorf("IsKey(%q) is %v", key, !want)
			}
		}
	}
	for _, key := range []string{"cart-1", ".", "..", "-", "_", "A.b-C_9", strings.Repeat("k", api.MaxName-1), strings.Repeat("k", api.MaxName)} {
		if !ident.IsKey(key) {
			t.Errorf("IsKey(%q) is false", key)
		}
	}
	for _, key := range []string{"", "a b", " ", "a ", "é", "a\n", "a\x00", strings.Repeat("k", api.MaxName+1), strings.Repeat("k", 1<<16), strings.Repeat("é", 16)} {
		if ident.IsKey(key) {
			t.Errorf("IsKey(%.40q) is true", key)
		}
	}
}

func TestP4_5NodeThereAndBack(t *testing.T) {
	named := 0
	for node := -300; node <= 300; node++ {
		name, there := ident.Name(node)
		if !there {
			continue
		}
		named++
		if got, there := ident.Node(name); got != node || !there || !ident.IsKey(name) {
			t.Errorf("Node(Name(%d)): %d, %v", node, got, there)
		}
	}
	if named != api.MaxNodes {
		t.Errorf("%d nodes have a name", named)
	}
}
