package prim

import (
	"bytes"
	"math/rand"
	"strings"
	"testing"
	"unicode/utf8"

	"charter/api"
)

// codePoint is how many bytes there are of the code point that a body begins with, by the document's words; 0, if of none.
func codePoint(body []byte) int {
	first, n := body[0], 0
	switch {
	case first < 0x80:
		return 1
	case first >= 0xc0 && first < 0xe0:
		n = 2
	case first >= 0xe0 && first < 0xf0:
		n = 3
	case first >= 0xf0 && first < 0xf8:
		n = 4
	}
	if n == 0 || len(body) < n {
		return 0
	}
	point := int(first) % (1 << (7 - n))
	for _, b := range body[1:n] {
		if b < 0x80 || b >= 0xc0 {
			return 0
		}
		point = 64*point + int(b)%64
	}
	least := []int{0, 0, 0x80, 0x800, 0x10000}[n]
	if point < least || point > 0x10ffff || point >= 0xd800 && point <= 0xdfff {
		return 0
	}
	return n
}

// The letters, digits and signs of the mark 13, as the document has them.
const plain = "abcdefghijklmnopqrstuvwxyzABCDEFGHIJKLMNOPQRSTUVWXYZ0123456789 '()+,-./:=?"

// isText tells by the document's words whether a body is a text of a mark.
func isText(mark byte, body []byte) bool {
	for len(body) > 0 {
		n := 1
		switch {
		case mark == 0x0c:
			n = codePoint(body)
		case mark == 0x13 && !strings.Contains(plain, string(rune(body[0]))), mark == 0x16 && body[0] > 0x7f:
			return false
		}
		if n == 0 {
			return false
		}
		body = body[n:]
	}
	return true
}

func checkText(t *testing.T, mark byte, body []byte) bool {
	t.Helper()
	want := error(nil)
	switch {
	case mark != 0x0c && mark != 0x13 && mark != 0x16:
		want = api.ErrArg
	case !isText(mark, body):
		want = api.ErrForm
	}
	if err := Text(mark, body); err != want {
		t.Errorf("Text of %02x, %x is %v, not %v", mark, short(body), err, want)
	}
	return want == nil
}

// P8.5: each byte of each mark, alone, first and last.
func TestTextOfEachByte(t *testing.T) {
	counts := map[byte]int{}
	for _, mark := range []byte{0x0c, 0x13, 0x16} {
		for b := range 256 {
			if checkText(t, mark, []byte{byte(b)}) {
				counts[mark]++
			}
			checkText(t, mark, append([]byte("Root "), byte(b)))
			checkText(t, mark, append([]byte{byte(b)}, " 1"...))
			checkText(t, mark, append(append(bytes.Repeat([]byte{'a'}, 1000), byte(b)), 'z'))
		}
	}
	if counts[0x0c] != 128 || counts[0x13] != 26+26+10+12 || counts[0x16] != 128 {
		t.Errorf("texts of one byte: %v", counts)
	}
}

// P8.5, R1: all marks, with texts and others; no mark is told ahead of no text.
func TestTextOfEachMark(t *testing.T) {
	for mark := range 256 {
		for _, body := range []string{"", "abc", "a@b", "\x7f", "\x80", "\xc3\xa9", "\xff\xff", "\x00"} {
			checkText(t, byte(mark), []byte(body))
		}
		want := error(api.ErrArg)
		if mark == 0x0c || mark == 0x13 || mark == 0x16 {
			want = nil
		}
		checkError(t, "Text of no bytes", Text(byte(mark), nil), want)
		checkError(t, "Text of letters", Text(byte(mark), []byte("Root")), want)
	}
}

// P8.5: UTF-8's code points, each one there is and those that may not be.
func TestTextOfEachCodePoint(t *testing.T) {
	for point := range 0x110000 {
		body := utf8.AppendRune(nil, rune(point))
		want := error(nil)
		if point >= 0xd800 && point <= 0xdfff {
			body, want = []byte{0xe0 | byte(point>>12), 0x80 | byte(point>>6)&0x3f, 0x80 | byte(point)&0x3f}, api.ErrForm
		}
		if err := Text(0x0c, body); err != want {
			t.Fatalf("Text of the code point %x is %v, not %v", point, err, want)
		}
	}
	for _, body := range []string{
		"80", "bf", "c0 80", "c1 bf", "c2", "c2 41", "c2 c2", "e0 80 80", "e0 9f bf", "ed a0 80", "ed bf bf", "e2 82", "e2 82 41", "f0 80 80 80", "f0 8f bf bf",
		"f4 90 80 80", "f5 80 80 80", "f7 bf bf bf", "f8 88 80 80 80", "fc 84 80 80 80 80", "fe", "ff", "f0 90 80", "41 c2", "c2 a9 80", "ed a0 bd ed b8 80",
	} {
		checkError(t, "Text of "+body, Text(0x0c, unhex(t, body)), api.ErrForm)
	}
	for _, body := range []string{"00", "7f", "c2 80", "df bf", "e0 a0 80", "ed 9f bf", "ee 80 80", "ef bf bd", "ef bf bf", "f0 90 80 80", "f4 8f bf bf", "41 c3 a9 42"} {
		checkError(t, "Text of "+body, Text(0x0c, unhex(t, body)), nil)
	}
}

// P8.5: all bodies of four of those bytes that matter, and others.
func TestTextOfAllShortBodies(t *testing.T) {
	counts := map[bool]int{}
	bodies := allShort([]byte{0x00, 0x41, 0x7f, 0x80, 0x8f, 0x90, 0x9f, 0xa0, 0xbf, 0xc0, 0xc1, 0xc2, 0xdf, 0xe0, 0xe1, 0xed, 0xef, 0xf0, 0xf1, 0xf4, 0xf5, 0xf8, 0xff}, 4)
	for _, body := range append(bodies, randomTexts(draws())...) {
		for _, mark := range []byte{0x0c, 0x13, 0x16} {
			counts[checkText(t, mark, body)]++
		}
	}
	if counts[true] < 5000 || counts[false] < 5000 {
		t.Errorf("%d bodies are texts, %d aren't", counts[true], counts[false])
	}
	for _, mark := range []byte{0x0c, 0x13, 0x16} {
		checkText(t, mark, bytes.Repeat([]byte{'a'}, 1<<20))
		checkText(t, mark, append(bytes.Repeat([]byte{'a'}, 1<<20), 0xc3))
	}
}

// randomTexts are code points, now and then with a byte turned.
func randomTexts(r *rand.Rand) [][]byte {
	out := make([][]byte, 20000)
	for i := range out {
		for range r.Intn(8) {
			out[i] = utf8.AppendRune(out[i], rune(r.Intn(0x110000)>>r.Intn(20)))
		}
		if len(out[i]) > 0 && r.Intn(2) == 0 {
			out[i][r.Intn(len(out[i]))] ^= 1 << r.Intn(8)
		}
	}
	return out
}
