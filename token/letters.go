package token

const (
	byteBits   = 8
	letterBits = 6
	atOnce     = 4  // letters that are three bytes just
	noLetter   = -1 // in the place of a letter's number
)

// letters stand at their numbers.
var letters = [1 << letterBits]byte{
	'A', 'B', 'C', 'D', 'E', 'F', 'G', 'H', 'I', 'J', 'K', 'L', 'M', 'N', 'O', 'P',
	'Q', 'R', 'S', 'T', 'U', 'V', 'W', 'X', 'Y', 'Z', 'a', 'b', 'c', 'd', 'e', 'f',
	'g', 'h', 'i', 'j', 'k', 'l', 'm', 'n', 'o', 'p', 'q', 'r', 's', 't', 'u', 'v',
	'w', 'x', 'y', 'z', '0', '1', '2', '3', '4', '5', '6', '7', '8', '9', '-', '_',
}

// numbers is letters the other way round, so that a long text is not sought through byte by byte.
func numbers() [1 << byteBits]int {
	var l [1 << byteBits]int
	for b := range l {
		l[b] = noLetter
	}
	for n, b := range letters {
		l[b] = n
	}
	return l
}

// Letters is bytes in letters, Bytes the bytes of letters.
func Letters(b []byte) string {
	l := make([]byte, 0, len(b)/3*atOnce+atOnce)
	bits, left := 0, 0 // what no letter has yet, and how many bits that is
	for _, x := range b {
		bits = bits<<byteBits | int(x)
		left += byteBits
		for left >= letterBits {
			left -= letterBits
			l = append(l, letters[bits>>left])
			bits &= 1<<left - 1
		}
	}
	if left > 0 {
		l = append(l, letters[bits<<(letterBits-left)])
	}
	return string(l)
}

func Bytes(s string) ([]byte, bool) {
	b := make([]byte, 0, len(s)/atOnce*3+3)
	number := numbers()
	bits, left := 0, 0 // what no byte has yet, and how many bits that is
	if len(s)%atOnce == 1 {
		goto refused
	}
	for i := range len(s) {
		n := number[s[i]]
		if n == noLetter {
			goto refused
		}
		bits = bits<<letterBits | n
		left += letterBits
		if left >= byteBits {
			left -= byteBits
			b = append(b, byte(bits>>left))
			bits &= 1<<left - 1
		}
	}
	if bits != 0 {
		goto refused
	}
	return b, true
refused:
	return nil, false
}
