package wire_test

import (
	"bytes"
	"encoding/binary"
	"hash/crc32"
	"testing"

	"trolley/api"
	"trolley/wire"
)

// payload is so many bytes, no two neighbours alike.
func payload(n int) []byte {
	b := make([]byte, n)
	for i := range b {
		b[i] = byte(i*7 + i>>8)
	}
	return b
}

// frameOf is a frame as the document says it, of any number of bytes, made without the package.
func frameOf(p []byte) []byte {
	f := append(binary.AppendUvarint(nil, uint64(len(p))), p...)
	return binary.LittleEndian.AppendUint32(f, crc32.ChecksumIEEE(p))
}

func TestP1_2Frame(t *testing.T) {
	f, e := wire.Frame([]byte("a"))
	if e != api.OK || !bytes.Equal(f, []byte{1, 'a', 0x43, 0xbe, 0xb7, 0xe8}) {
		t.Errorf("the frame of a: %x, %v", f, e)
	}
	for _, b := range [][]byte{nil, {}} {
		f, e := wire.Frame(b)
		if e != api.OK || !bytes.Equal(f, []byte{0, 0, 0, 0, 0}) {
			t.Errorf("the frame of nothing: %x, %v", f, e)
		}
	}
	for _, n := range []int{2, 127, 128, 129, 1 << 14, api.MaxFrame - 1, api.MaxFrame} {
		f, e := wire.Frame(payload(n))
		if e != api.OK || !bytes.Equal(f, frameOf(payload(n))) {
			t.Errorf("the frame of %d bytes: %d bytes, %v", n, len(f), e)
		}
	}
}

func TestP1_2FrameTooLong(t *testing.T) {
	for _, n := range []int{api.MaxFrame + 1, api.MaxFrame + 2, 1 << 20} {
		if f, e := wire.Frame(payload(n)); e != api.ErrLong || len(f) != 0 {
			t.Errorf("the frame of %d bytes: %d bytes, %v", n, len(f), e)
		}
	}
}

func TestP1_2Unframe(t *testing.T) {
	for _, n := range []int{0, 1, 2, 127, 128, 1 << 14, api.MaxFrame - 1, api.MaxFrame} {
		for _, behind := range [][]byte{nil, {0}, {1, 2, 3, 4, 5, 6}, frameOf(payload(3))} {
			p, rest, e := wire.Unframe(append(frameOf(payload(n)), behind...))
			if e != api.OK || !bytes.Equal(p, payload(n)) || !bytes.Equal(rest, behind) {
				t.Errorf("%d bytes, %d behind: %d, %d, %v", n, len(behind), len(p), len(rest), e)
			}
		}
	}
}

func TestP1_2UnframeErrors(t *testing.T) {
	long := frameOf(payload(api.MaxFrame + 1))
	most := frameOf(payload(api.MaxFrame))
	cases := []struct {
		name string
		b    []byte
		want api.Errno
	}{
		{"nil", nil, api.ErrShort},
		{"empty", []byte{}, api.ErrShort},
		{"half a number", []byte{0x80}, api.ErrShort},
		{"eight bytes of a number", bytes.Repeat([]byte{0xff}, 8), api.ErrShort},
		{"another form", []byte{0x80, 0, 0, 0, 0, 0}, api.ErrForm},
		{"another form, nothing behind", []byte{0x81, 0}, api.ErrForm},
		{"ten bytes of a number", bytes.Repeat([]byte{0x80}, 10), api.ErrRange},
		{"the greatest number", wire.Put(nil, 1<<63-1), api.ErrLong},
		{"one byte above MaxFrame", long, api.ErrLong},
		{"a number above MaxFrame alone", wire.Put(nil, api.MaxFrame+1), api.ErrLong},
		{"MaxFrame alone", wire.Put(nil, api.MaxFrame), api.ErrShort},
		{"MaxFrame, a byte short", most[:len(most)-1], api.ErrShort},
		{"a payload short", []byte{3, 1, 2}, api.ErrShort},
		{"no sum", []byte{1, 'a'}, api.ErrShort},
		{"three bytes of a sum", []byte{1, 'a', 0x43, 0xbe, 0xb7}, api.ErrShort},
		{"three bytes of another sum", []byte{1, 'a', 1, 2, 3}, api.ErrShort},
		{"another sum", []byte{1, 'a', 0x43, 0xbe, 0xb7, 0xe9}, api.ErrSum},
		{"the sum's bytes turned round", []byte{1, 'a', 0xe8, 0xb7, 0xbe, 0x43}, api.ErrSum},
		{"another sum of nothing", []byte{0, 0, 0, 0, 1}, api.ErrSum},
	}
	for _, c := range cases {
		p, rest, e := wire.Unframe(c.b)
		if e != c.want || len(p) != 0 || len(rest) != 0 {
			t.Errorf("%s: %d bytes, %d behind, %v; want %v", c.name, len(p), len(rest), e, c.want)
		}
	}
}

func TestP1_2NewMemory(t *testing.T) {
	p := append(make([]byte, 0, 64), "abc"...)
	f, _ := wire.Frame(p)
	fill(f, 0xee)
	if string(p) != "abc" || !bytes.Equal(p[3:cap(p)], make([]byte, cap(p)-3)) {
		t.Error("Frame answers the memory that was handed in")
	}
	b := append(frameOf([]byte("abc")), 7, 8, 9)
	was := bytes.Clone(b[:cap(b)])
	p, rest, _ := wire.Unframe(b)
	fill(p, 0xee)
	if !bytes.Equal(rest, []byte{7, 8, 9}) || !bytes.Equal(b[:cap(b)], was) {
		t.Error("Unframe's payload shares its memory")
	}
	p, rest, _ = wire.Unframe(b)
	fill(rest, 0xee)
	if string(p) != "abc" || !bytes.Equal(b[:cap(b)], was) {
		t.Error("Unframe's rest shares its memory")
	}
	p, rest, _ = wire.Unframe(b)
	fill(b, 0xdd)
	if string(p) != "abc" || !bytes.Equal(rest, []byte{7, 8, 9}) {
		t.Error("Unframe keeps what was handed in")
	}
}

func TestP1_4FrameThereAndBack(t *testing.T) {
	var b []byte
	sizes := []int{0, 1, 127, 128, 0, 300, api.MaxFrame, 5}
	for _, n := range sizes {
		f, _ := wire.Frame(payload(n))
		b = append(b, f...)
	}
	for _, n := range sizes {
		p, rest, e := wire.Unframe(b)
		if e != api.OK || !bytes.Equal(p, payload(n)) {
			t.Fatalf("%d bytes: %d, %v", n, len(p), e)
		}
		b = rest
	}
	if len(b) != 0 {
		t.Errorf("%d bytes are left", len(b))
	}
}

func TestP1_5FrameHasOneForm(t *testing.T) {
	heads := [][]byte{{0}, {1}, {2}, {0x80, 0}, {0x81, 0}, {0x82, 0x80, 0}, {0x80, 1}, {0x80, 0x80, 4}}
	read := 0
	for _, head := range heads {
		for _, n := range []int{0, 1, 2, 128, api.MaxFrame} {
			p := payload(n)
			b := binary.LittleEndian.AppendUint32(append(bytes.Clone(head), p...), crc32.ChecksumIEEE(p))
			got, rest, e := wire.Unframe(b)
			if e != api.OK {
				continue
			}
			read++
			f, e := wire.Frame(got)
			if e != api.OK || !bytes.Equal(f, b[:len(b)-len(rest)]) {
				t.Errorf("%x.. with %d bytes is read as a frame that Frame does not write", head, n)
			}
		}
	}
	if read != 5 {
		t.Errorf("%d of 5 frames are read", read)
	}
}

func TestP1_6NoBeginningIsAFrame(t *testing.T) {
	for _, n := range []int{0, 1, 5, 127, 128, 200} {
		f, _ := wire.Frame(payload(n))
		for i := range f {
			if _, _, e := wire.Unframe(f[:i]); e != api.ErrShort {
				t.Errorf("%d of %d bytes of a frame: %v", i, len(f), e)
			}
		}
	}
	f, _ := wire.Frame(payload(api.MaxFrame))
	for _, i := range []int{1, 2, 3, 4, 9, len(f) / 2, len(f) - 5, len(f) - 4, len(f) - 1} {
		if _, _, e := wire.Unframe(f[:i]); e != api.ErrShort {
			t.Errorf("%d of %d bytes of a frame: %v", i, len(f), e)
		}
	}
}

func TestP1_7AByteTurned(t *testing.T) {
	for _, n := range []int{0, 1, 2, 60, 127, 128} {
		f, _ := wire.Frame(payload(n))
		for i := len(f) - n - 4; i < len(f); i++ {
			for x := 1; x < 256; x++ {
				g := bytes.Clone(f)
				g[i] ^= byte(x)
				if _, _, e := wire.Unframe(g); e != api.ErrSum {
					t.Fatalf("a frame of %d bytes with byte %d turned by %x: %v", n, i, x, e)
				}
			}
		}
	}
	f, _ := wire.Frame(payload(api.MaxFrame))
	for _, i := range []int{3, 4, len(f) / 2, len(f) - 5, len(f) - 4, len(f) - 1} {
		g := bytes.Clone(f)
		g[i] ^= 1
		if _, _, e := wire.Unframe(g); e != api.ErrSum {
			t.Errorf("the longest frame with byte %d turned: %v", i, e)
		}
	}
}
