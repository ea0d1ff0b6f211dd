package tlv

import (
	"bytes"
	"encoding/asn1"
	"encoding/hex"
	"errors"
	"math"
	"math/rand"
	"strings"
	"testing"

	"charter/api"
)

// The tests' own draws: the same at each run.
func draws() *rand.Rand { return rand.New(rand.NewSource(7)) }

func randomBytes(r *rand.Rand, n int) []byte {
	b := make([]byte, n)
	r.Read(b)
	return b
}

func unhex(t *testing.T, s string) []byte {
	t.Helper()
	b, err := hex.DecodeString(strings.ReplaceAll(s, " ", ""))
	if err != nil {
		t.Fatal(err)
	}
	return b
}

// The eight bytes that are no marks.
var none = []byte{0x1f, 0x3f, 0x5f, 0x7f, 0x9f, 0xbf, 0xdf, 0xff}

func isNone(b byte) bool { return bytes.IndexByte(none, b) >= 0 }

// ofWhole tells it by the second digit ahead: those of wholes are odd in the third bit from above.
func ofWhole(b byte) bool { return !isNone(b) && b/0x20%2 == 1 }

func ofPart(b byte) bool { return !isNone(b) && b/0x20%2 == 0 }

// marks are all that are marks.
func marks(kind func(byte) bool) []byte {
	var out []byte
	for b := range 256 {
		if kind(byte(b)) {
			out = append(out, byte(b))
		}
	}
	return out
}

// lengthBytes is how a length that may be is told.
func lengthBytes(n int) []byte {
	if n <= 127 {
		return []byte{byte(n)}
	}
	if n <= 255 {
		return []byte{0x81, byte(n)}
	}
	return []byte{0x82, byte(n / 256), byte(n % 256)}
}

// wanted is an element by the document's words.
func wanted(mark byte, body []byte) []byte {
	return append(append([]byte{mark}, lengthBytes(len(body))...), body...)
}

// The lengths about each edge that the document names.
var edges = []int{0, 1, 2, 126, 127, 128, 129, 254, 255, 256, 257, 258, 32767, 32768, 65279, 65280, 65534, 65535}

// checkError checks that just that error is told, at no place.
func checkError(t *testing.T, call string, err, want error) {
	t.Helper()
	if err != want {
		t.Errorf("%s is %v, not %v", call, err, want)
	}
	var spot *api.Spot
	if errors.As(err, &spot) {
		t.Errorf("%s: the error is at a place", call)
	}
}

func checkBytes(t *testing.T, call string, got []byte, err error, want []byte) {
	t.Helper()
	if err != nil || !bytes.Equal(got, want) {
		t.Errorf("%s is %x, %v, not %x", call, short(got), err, short(want))
	}
}

func checkRefused(t *testing.T, call string, got []byte, err, want error) {
	t.Helper()
	checkError(t, call, err, want)
	if got != nil {
		t.Errorf("%s tells %x beside an error", call, short(got))
	}
}

// short is what is shown of many bytes.
func short(b []byte) []byte { return b[:min(len(b), 40)] }

// P7.1: each length.
func TestHeadOfEachLength(t *testing.T) {
	for _, mark := range []byte{0x02, 0x30} {
		for n := range api.MaxBody + 1 {
			got, err := Head(mark, n)
			checkBytes(t, "Head", got, err, append([]byte{mark}, lengthBytes(n)...))
		}
	}
}

// P7.1: each mark, at each edge.
func TestHeadOfEachMark(t *testing.T) {
	for b := range 256 {
		mark := byte(b)
		for _, n := range edges {
			got, err := Head(mark, n)
			if isNone(mark) {
				checkRefused(t, "Head of no mark", got, err, api.ErrArg)
			} else {
				checkBytes(t, "Head", got, err, append([]byte{mark}, lengthBytes(n)...))
			}
		}
	}
}

// P7.1, R1: no mark and a length below 0 are told ahead of one that is too long.
func TestHeadOfOtherLengths(t *testing.T) {
	for b := range 256 {
		mark := byte(b)
		for _, n := range []int{-1, -2, -128, -256, -65536, math.MinInt32, math.MinInt} {
			got, err := Head(mark, n)
			checkRefused(t, "Head below 0", got, err, api.ErrArg)
		}
		want := error(api.ErrLong)
		if isNone(mark) {
			want = api.ErrArg
		}
		for _, n := range []int{65536, 65537, 65536 + 127, 1 << 17, 1 << 24, math.MaxInt32, math.MaxInt} {
			got, err := Head(mark, n)
			checkRefused(t, "Head above MaxBody", got, err, want)
		}
	}
}

// P7.1: as Go's own encoding tells marks and lengths.
func TestHeadAsGoTellsIt(t *testing.T) {
	for _, n := range edges {
		for _, mark := range append(marks(ofPart), marks(ofWhole)...) {
			body := make([]byte, n)
			want, err := asn1.Marshal(asn1.RawValue{Class: int(mark >> 6), Tag: int(mark & 0x1f), IsCompound: mark&0x20 != 0, Bytes: body})
			if err != nil {
				t.Fatal(err)
			}
			got, err := Head(mark, n)
			checkBytes(t, "Head and a body", append(got, body...), err, want)
		}
	}
}

// P7.1, R2: an answer shares no memory with another one.
func TestHeadIsNewMemory(t *testing.T) {
	for _, n := range edges {
		first, err := Head(0x30, n)
		if err != nil {
			t.Fatal(err)
		}
		clear(first[:cap(first)])
		again, err := Head(0x30, n)
		checkBytes(t, "Head again", again, err, append([]byte{0x30}, lengthBytes(n)...))
	}
}
