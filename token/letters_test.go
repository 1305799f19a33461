package token_test

import (
	"bytes"
	"encoding/base64"
	"strings"
	"testing"

	"trolley/token"
)

// modelBytes reads by hand: bit by bit.
func modelBytes(s string) ([]byte, bool) {
	var bits strings.Builder
	for i := range len(s) {
		n := strings.IndexByte(alphabet, s[i])
		if n < 0 {
			return nil, false
		}
		for shift := 5; shift >= 0; shift-- {
			bits.WriteByte('0' + byte(n>>shift&1))
		}
	}
	all := bits.String()
	var b []byte
	for len(all) >= 8 {
		x := 0
		for _, bit := range all[:8] {
			x = 2*x + int(bit-'0')
		}
		b, all = append(b, byte(x)), all[8:]
	}
	if len(all) >= 6 || strings.Contains(all, "1") {
		return nil, false
	}
	return b, true
}

func read(t *testing.T, s string, want []byte) {
	t.Helper()
	if b, ok := token.Bytes(s); !ok || !bytes.Equal(b, want) {
		t.Errorf("Bytes(%s): %d bytes, %v; want %d", short(s), len(b), ok, len(want))
	}
}

func noBytes(t *testing.T, s string) {
	t.Helper()
	if b, ok := token.Bytes(s); ok || len(b) != 0 {
		t.Errorf("Bytes(%s): %x, %v", short(s), b, ok)
	}
}

func TestP15_1Letters(t *testing.T) {
	for _, c := range []struct {
		b    []byte
		want string
	}{
		{nil, ""}, {[]byte{}, ""},
		{[]byte{0}, "AA"}, {[]byte{0, 0}, "AAA"}, {[]byte{0, 0, 0}, "AAAA"},
		{[]byte{0xff}, "_w"}, {[]byte{0xff, 0xff}, "__8"}, {[]byte{0xff, 0xff, 0xff}, "____"},
		{[]byte{1}, "AQ"}, {[]byte{0, 1}, "AAE"}, {[]byte{0, 0, 1}, "AAAB"}, // the first byte's bits are the highest
		{[]byte{0x80}, "gA"}, {[]byte{0xfb, 0xef, 0xbe}, "----"}, {[]byte("Man"), "TWFu"}, {[]byte("Mann"), "TWFubg"},
	} {
		if s := token.Letters(c.b); s != c.want {
			t.Errorf("Letters(%x): %q, want %q", c.b, s, c.want)
		}
		read(t, c.want, c.b)
	}
}

// Each letter stands at its number: three bytes are made of the numbers of four.
func TestP15_1EachLetter(t *testing.T) {
	for n := range 64 {
		for place := range 4 {
			word := n << (6 * (3 - place))
			b := []byte{byte(word >> 16), byte(word >> 8), byte(word)}
			want := "AAA"[:place] + alphabet[n:n+1] + "AAA"[place:]
			if s := token.Letters(b); s != want {
				t.Errorf("Letters(%x): %q, want %q", b, s, want)
			}
			read(t, want, b)
		}
	}
}

func TestP15_1ThereAndBack(t *testing.T) {
	g := &dice{x: 15}
	lengths := []int{1 << 16, 1<<16 + 1, 1<<16 + 2, 1 << 20}
	for n := range 300 {
		lengths = append(lengths, n)
	}
	for _, n := range lengths {
		b := g.bytes(n)
		s := token.Letters(b)
		if s != lettersOf(b) || len(s) != (4*n+2)/3 {
			t.Fatalf("%d bytes: %s", n, short(s))
		}
		read(t, s, b)
	}
	for x := range 256 {
		for _, b := range [][]byte{{byte(x)}, {0, byte(x)}, {byte(x), 0}, {0, 0, byte(x)}, {byte(x), byte(x), byte(x)}} {
			if s := token.Letters(b); s != lettersOf(b) {
				t.Errorf("Letters(%x): %q", b, s)
			}
			read(t, lettersOf(b), b)
		}
	}
}

func TestP15_1OtherBytes(t *testing.T) {
	for _, text := range []string{"AA", "AAA", "AAAA", "AAAAAA", "TWFubg"} {
		for i := range text {
			for x := range 256 {
				s := text[:i] + string([]byte{byte(x)}) + text[i+1:]
				if strings.IndexByte(alphabet, byte(x)) < 0 {
					noBytes(t, s)
				} else if want, ok := modelBytes(s); ok {
					read(t, s, want)
				}
			}
		}
	}
	for _, s := range []string{
		"AA==", "AAA=", "AAAA====", "A===", "=", "====", "AA+A", "AA/A", "AA A", " AAAA", "AAAA ", "AAAA\n", "AA\r\nAA", "\nAAAA", "\x00", "AAAA\x00\x00",
		"é", "ééAA", "AAAÀ", "日本", "\u212aAAA", "\uff21\uff21", "A.AA", "A~AA", "A,AA", "[AAA", "@AAA", "`AAA", "{AAA", "/AAA", ":AAA", "^AAA",
		strings.Repeat("A", 1<<16) + "==", strings.Repeat("A", 1<<16-1) + "!", "!" + strings.Repeat("A", 1<<16),
	} {
		noBytes(t, s)
	}
}

func TestP15_1Lengths(t *testing.T) {
	for n := range 200 {
		s := strings.Repeat("A", n)
		if n%4 == 1 {
			noBytes(t, s)
			continue
		}
		read(t, s, make([]byte, n*3/4))
	}
	for _, s := range []string{"A", "B", "_", "-", "____A", "TWFuA", "TWFuTWFu_"} {
		noBytes(t, s)
	}
}

// Of two letters the lowest four bits are missing, of three the lowest two.
func TestP15_1MissingBits(t *testing.T) {
	for _, ahead := range []string{"", "TWFu", "AAAAAAAA", "____"} {
		for first := range 64 {
			for last := range 64 {
				two := ahead + alphabet[first:first+1] + alphabet[last:last+1]
				if last%16 == 0 {
					read(t, two, append(mustBytes(t, ahead), byte(first<<2|last>>4)))
				} else {
					noBytes(t, two)
				}
				three := ahead + "A" + alphabet[first:first+1] + alphabet[last:last+1]
				if last%4 == 0 {
					read(t, three, append(mustBytes(t, ahead), byte(first>>4), byte(first<<4|last>>2)))
				} else {
					noBytes(t, three)
				}
			}
		}
	}
	noBytes(t, "AB")
	noBytes(t, "AAB")
	read(t, "AAAB", []byte{0, 0, 1})
}

func mustBytes(t *testing.T, s string) []byte {
	t.Helper()
	b, e := base64.RawURLEncoding.Strict().DecodeString(s)
	if e != nil {
		t.Fatal(e)
	}
	return b
}

// Texts of any letters, and some bytes that are none, are read as the model reads them, and have one form.
func TestP15_1ThrownTexts(t *testing.T) {
	g := &dice{x: 16}
	taken, not := 0, 0
	for range 50000 {
		b := make([]byte, g.below(12))
		for i := range b {
			b[i] = alphabet[g.below(64)]
			if g.below(3) == 0 {
				b[i] = "AQgw"[g.below(4)]
			}
			if g.below(60) == 0 {
				b[i] = byte(g.below(256))
			}
		}
		want, ok := modelBytes(string(b))
		if !ok {
			not++
			noBytes(t, string(b))
			continue
		}
		taken++
		read(t, string(b), want)
		if s := token.Letters(want); s != string(b) {
			t.Errorf("Letters of Bytes(%q): %q", b, s)
		}
	}
	if taken < 10000 || not < 10000 {
		t.Errorf("%d taken, %d not", taken, not)
	}
}

func TestMemoryOfLetters(t *testing.T) {
	g := &dice{x: 17}
	for n := range 20 {
		given := append(make([]byte, 0, n+9), g.bytes(n)...)
		was := bytes.Clone(given[:cap(given)])
		s := token.Letters(given)
		if !bytes.Equal(given[:cap(given)], was) {
			t.Errorf("Letters has changed %x", was)
		}
		for i := range given {
			given[i] ^= 0xff
		}
		if s != lettersOf(was[:n]) {
			t.Errorf("Letters keeps what was handed in: %q", s)
		}
		one, _ := token.Bytes(s)
		two, _ := token.Bytes(s)
		for i := range one[:cap(one)] {
			one[:cap(one)][i] = 0xee
		}
		if !bytes.Equal(two, was[:n]) || s != lettersOf(was[:n]) {
			t.Errorf("Bytes answers memory of another answer: %x", two)
		}
	}
}
