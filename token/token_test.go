package token_test

import (
	"bytes"
	"strings"
	"testing"

	"trolley/api"
	"trolley/ormap"
	"trolley/token"
)

func TestP15_2Make(t *testing.T) {
	if s := made(t, api.Cart{}); s != lettersOf([]byte{3, 0, 0, 0, 0x12, 0xd9, 0x41, 0xff}) {
		t.Errorf("the empty cart's token: %q", s)
	}
	behind := [4]int{}
	for _, c := range rightCarts() {
		s := made(t, c)
		if want := tokenOf(c); s != want {
			t.Errorf("%v: %s, want %s", c, short(s), short(want))
		}
		behind[len(s)%4]++
	}
	if behind[0] < 5 || behind[1] != 0 || behind[2] < 5 || behind[3] < 5 {
		t.Errorf("tokens by the letters behind the last four: %v", behind)
	}
	if n := len(made(t, fullest())); n < 7000 || n > api.MaxValue {
		t.Errorf("the greatest token has %d letters", n)
	}
}

func TestP15_2MakeOfWhatCantBe(t *testing.T) {
	for _, w := range wrongCarts() {
		s, e := token.Make(w.cart)
		_, why := ormap.Encode(w.cart)
		if s != "" || e != w.want || e != why {
			t.Errorf("%s: %s, %v; want %v", w.why, short(s), e, w.want)
		}
	}
}

func TestP15_2Read(t *testing.T) {
	if c, e := token.Read(""); e != api.OK || !same(c, api.Cart{}) {
		t.Errorf("the empty text: %v, %v", c, e)
	}
	for _, want := range rightCarts() {
		if c, e := token.Read(tokenOf(want)); e != api.OK || !same(c, want) {
			t.Errorf("%s: %v, %v; want %v", short(tokenOf(want)), c, e, want)
		}
	}
}

func TestP15_2ReadOfNoLetters(t *testing.T) {
	s := tokenOf(sample())
	for _, text := range []string{
		" ", "\n", "=", "A", "B", "AB", "AAB", "!", "é", s + "=", s + "==", s + "\n", s + " ", " " + s, s + "\x00", "\n" + s, s[:4] + "\r\n" + s[4:],
		s[:8] + "." + s[8:], s[:8] + "." + s[9:], s[:8] + "+" + s[9:], strings.ReplaceAll(s, s[:1], "~"), `"` + s + `"`,
	} {
		refused(t, "no letters", text)
	}
	for x := range 256 {
		if strings.IndexByte(alphabet, byte(x)) < 0 {
			for _, i := range []int{0, 1, 7, len(s) / 2, len(s) - 1} {
				refused(t, "a byte that is no letter", s[:i]+string([]byte{byte(x)})+s[i+1:])
			}
		}
	}
}

func TestP15_2ReadOfNoFrame(t *testing.T) {
	code := codeOf(sample())
	frame := frameOf(code)
	other := bytes.Clone(frame)
	other[len(other)-1] ^= 1
	cases := []struct {
		why string
		b   []byte
	}{
		{"half a number", []byte{0x80}},
		{"a number alone", []byte{3}},
		{"a number in another form", append([]byte{0x83, 0}, frameOf([]byte{0, 0, 0})[1:]...)},
		{"a number that does not fit", bytes.Repeat([]byte{0xff}, 12)},
		{"a number beyond a frame", append([]byte{0x81, 0x80, 4}, make([]byte, 1<<16+5)...)},
		{"noughts", make([]byte, 4)},
		{"no sum", frame[:len(frame)-4]},
		{"another sum", other},
		{"a byte behind", append(bytes.Clone(frame), 0)},
		{"a frame behind", append(bytes.Clone(frame), frame...)},
		{"an empty frame behind", append(bytes.Clone(frame), frameOf(nil)...)},
		{"a byte ahead", append([]byte{0}, frame...)},
		{"the code alone", code},
		{"the empty cart's code alone", []byte{0, 0, 0}},
		{"a frame in a frame", frameOf(frame)},
	}
	for _, c := range cases {
		refused(t, c.why, lettersOf(c.b))
	}
}

func TestP15_2ReadOfNoCart(t *testing.T) {
	code := codeOf(sample())
	for i := range code {
		refused(t, "a beginning of a code", lettersOf(frameOf(code[:i])))
	}
	cases := []struct {
		why  string
		code []byte
	}{
		{"more behind", append(bytes.Clone(code), 0)},
		{"the empty cart and more", []byte{0, 0, 0, 0}},
		{"a number in another form", []byte{0x80, 0, 0, 0}},
		{"a number that does not fit", bytes.Repeat([]byte{0x80}, 12)},
		{"so many entries", uvarints(nil, api.MaxLive+1)},
		{"so many marks", uvarints([]byte{0}, api.MaxMarks+1)},
		{"so many dots", uvarints([]byte{0, 0}, api.MaxCloud+1)},
		{"an item too long", append(uvarints(nil, 1, api.MaxName+1), make([]byte, 100)...)},
		{"a text", []byte("milk")},
	}
	for _, c := range cases {
		refused(t, c.why, lettersOf(frameOf(c.code)))
	}
	for _, w := range wrongCarts() {
		refused(t, w.why, tokenOf(w.cart))
	}
}

// A frame may be as long as that, a cart's is not.
func TestP15_2ReadOfFramesAtTheirLimit(t *testing.T) {
	for _, n := range []int{api.MaxFrame - 1, api.MaxFrame, api.MaxFrame + 1, 1 << 20} {
		refused(t, "noughts", lettersOf(frameOf(make([]byte, n))))
		refused(t, "a cart and more", lettersOf(frameOf(append(codeOf(fullest()), make([]byte, n-len(codeOf(fullest())))...))))
	}
}

func TestP15_3ThereAndBack(t *testing.T) {
	g := &dice{x: 18}
	l := rightCarts()
	for range 2000 {
		l = append(l, g.cart())
	}
	for _, want := range l {
		s := made(t, want)
		c, e := token.Read(s)
		if e != api.OK || !same(c, want) {
			t.Fatalf("%s: %v, %v; want %v", short(s), c, e, want)
		}
		if again := made(t, c); again != s {
			t.Fatalf("%s is made anew as %s", short(s), short(again))
		}
	}
}

// Whatever the text: if it is read, it is what is made of what was read.
func TestP15_3ThrownTexts(t *testing.T) {
	g := &dice{x: 19}
	taken, not := 0, 0
	for range 20000 {
		code := codeOf(g.cart())
		for range g.below(3) {
			if len(code) > 0 {
				i := g.below(len(code))
				code[i] ^= byte(1 << g.below(8))
			}
		}
		s := lettersOf(frameOf(code))
		c, e := token.Read(s)
		if e != api.OK {
			not++
			refused(t, "thrown", s)
			continue
		}
		taken++
		if again := made(t, c); again != s {
			t.Fatalf("%s is read, and made anew as %s", short(s), short(again))
		}
		if !bytes.Equal(codeOf(c), code) {
			t.Fatalf("%s is read as another cart", short(s))
		}
	}
	if taken < 2000 || not < 2000 {
		t.Errorf("%d taken, %d not", taken, not)
	}
}

func TestP15_4AnotherLetter(t *testing.T) {
	g := &dice{x: 20}
	l := []api.Cart{{}, cart(marks(mark(0, 1, 1))), sample(), wide(2), wide(5), wide(6)} // with one byte of length, and with two
	for range 5 {
		l = append(l, g.cart())
	}
	for _, c := range l {
		s := made(t, c)
		for i := range s {
			for n := range alphabet {
				if alphabet[n] != s[i] {
					refused(t, "another letter", s[:i]+alphabet[n:n+1]+s[i+1:])
				}
			}
		}
	}
	s := made(t, fullest())
	for i := range s {
		n := (strings.IndexByte(alphabet, s[i]) + 1 + g.below(63)) % 64
		refused(t, "another letter", s[:i]+alphabet[n:n+1]+s[i+1:])
	}
}

func TestP15_5Beginnings(t *testing.T) {
	for _, c := range rightCarts() {
		s := made(t, c)
		for i := 1; i < len(s); i++ {
			refused(t, "a beginning", s[:i])
		}
		if c, e := token.Read(s[:0]); e != api.OK || !same(c, api.Cart{}) {
			t.Errorf("the empty beginning: %v, %v", c, e)
		}
		for _, more := range []string{"A", "AA", "AAA", "AAAA", "_", s} {
			refused(t, "more behind", s+more)
		}
	}
}

func TestMemory(t *testing.T) {
	for _, c := range rightCarts() {
		given := roomy(c)
		was := whole(roomy(c))
		s := made(t, given)
		if !same(whole(given), was) {
			t.Errorf("Make has changed %v", c)
		}
		spoil(given)
		one, _ := token.Read(s)
		two, _ := token.Read(s)
		spoil(one)
		if !same(two, c) || s != tokenOf(c) {
			t.Errorf("Read answers memory of another answer: %v", two)
		}
	}
}
