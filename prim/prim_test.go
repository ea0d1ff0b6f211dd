package prim

import (
	"bytes"
	"encoding/asn1"
	"encoding/hex"
	"errors"
	"math"
	"math/rand"
	"slices"
	"strings"
	"testing"

	"charter/api"
)

// The tests' own draws: the same at each run.
func draws() *rand.Rand { return rand.New(rand.NewSource(8)) }

func randomBytes(r *rand.Rand, n int) []byte {
	b := make([]byte, n)
	r.Read(b)
	return b
}

func unhex(t *testing.T, s string) []byte {
	t.Helper()
	b, err := hex.DecodeString(strings.ReplaceAll(s, " ", ""))
	if err != nil {
		t.Fatal(err)
	}
	return b
}

// checkError checks that just that error is told, at no place.
func checkError(t *testing.T, call string, err, want error) {
	t.Helper()
	if err != want {
		t.Errorf("%s is %v, not %v", call, err, want)
	}
	var spot *api.Spot
	if errors.As(err, &spot) {
		t.Errorf("%s: the error is at a place", call)
	}
}

func checkBytes(t *testing.T, call string, got []byte, err error, want []byte) {
	t.Helper()
	if err != nil || !bytes.Equal(got, want) {
		t.Errorf("%s is %x, %v, not %x", call, short(got), err, short(want))
	}
}

func checkRefused(t *testing.T, call string, got []byte, err, want error) {
	t.Helper()
	checkError(t, call, err, want)
	if got != nil {
		t.Errorf("%s tells %x beside an error", call, short(got))
	}
}

// short is what is shown of many bytes.
func short(b []byte) []byte { return b[:min(len(b), 40)] }

// allShort are all lists of those bytes, up to that length.
func allShort(of []byte, length int) [][]byte {
	all := [][]byte{{}}
	for ahead := 0; len(all[ahead]) < length; ahead++ {
		for _, b := range of {
			all = append(all, append(bytes.Clone(all[ahead]), b))
		}
	}
	return all
}

// bodyByGo is the body of what Go's own encoding makes of a thing, of fewer than 128 bytes.
func bodyByGo(t *testing.T, of any) []byte {
	t.Helper()
	b, err := asn1.Marshal(of)
	if err != nil || len(b) < 2 || int(b[1]) != len(b)-2 {
		t.Fatal(of, b, err)
	}
	return b[2:]
}

// bitsMayBe tells by the document's words whether bits may be, bit by bit.
func bitsMayBe(b api.Bits) bool {
	if b.Unused < 0 || b.Unused > 7 || len(b.B) == 0 && b.Unused != 0 {
		return false
	}
	for i := range b.Unused {
		if b.B[len(b.B)-1]>>i%2 == 1 {
			return false
		}
	}
	return true
}

func checkBits(t *testing.T, b api.Bits) {
	t.Helper()
	got, err := Bits(b)
	if !bitsMayBe(b) {
		checkRefused(t, "Bits", got, err, api.ErrArg)
		return
	}
	checkBytes(t, "Bits", got, err, append([]byte{byte(b.Unused)}, b.B...))
	read, err := ReadBits(got)
	if err != nil || read.Unused != b.Unused || !bytes.Equal(read.B, b.B) {
		t.Errorf("bits %x, %d are read as %x, %d, %v", short(b.B), b.Unused, short(read.B), read.Unused, err)
	}
}

func checkReadBits(t *testing.T, body []byte) {
	t.Helper()
	got, err := ReadBits(body)
	if len(body) == 0 || !bitsMayBe(api.Bits{B: body[1:], Unused: int(body[0])}) {
		checkError(t, "ReadBits", err, api.ErrForm)
		if got.B != nil || got.Unused != 0 {
			t.Errorf("ReadBits tells %x, %d beside an error", short(got.B), got.Unused)
		}
		return
	}
	if err != nil || got.Unused != int(body[0]) || !bytes.Equal(got.B, body[1:]) {
		t.Errorf("ReadBits of %x is %x, %d, %v", short(body), short(got.B), got.Unused, err)
	}
	again, err := Bits(got)
	checkBytes(t, "Bits of what was read", again, err, body)
}

// P8.3, P8.7: each last byte with each Unused, behind any others.
func TestBitsOfEachLastByte(t *testing.T) {
	for last := range 256 {
		for _, ahead := range [][]byte{nil, {0}, {0xff}, bytes.Repeat([]byte{0xa5}, 300)} {
			b := append(bytes.Clone(ahead), byte(last))
			for unused := -9; unused < 18; unused++ {
				checkBits(t, api.Bits{B: b, Unused: unused})
			}
			for _, unused := range []int{32, 64, 255, 256, 257, -256, -248, math.MaxInt32, math.MinInt32, math.MaxInt, math.MinInt} {
				checkBits(t, api.Bits{B: b, Unused: unused})
			}
			for unused := range 256 {
				checkReadBits(t, append([]byte{byte(unused)}, b...))
			}
		}
	}
}

// P8.3: bits of no bytes, of which none are unused, and no body at all.
func TestBitsOfNoBytes(t *testing.T) {
	for _, none := range [][]byte{nil, {}} {
		got, err := Bits(api.Bits{B: none})
		checkBytes(t, "Bits of none", got, err, []byte{0})
		for _, unused := range []int{-1, 1, 2, 7, 8, 256, math.MinInt} {
			got, err := Bits(api.Bits{B: none, Unused: unused})
			checkRefused(t, "Bits of none, some unused", got, err, api.ErrArg)
		}
		_, err = ReadBits(none)
		checkError(t, "ReadBits of none", err, api.ErrForm)
	}
	for unused := range 256 {
		checkReadBits(t, []byte{byte(unused)})
	}
}

// P8.3: bodies of each length, and as Go's own encoding tells them.
func TestBitsAsGoTellsThem(t *testing.T) {
	r := draws()
	for n := range 120 {
		for unused := range 8 {
			if n == 0 && unused > 0 {
				continue
			}
			b := randomBytes(r, n)
			if n > 0 {
				b[n-1] = b[n-1] >> unused << unused
			}
			got, err := Bits(api.Bits{B: b, Unused: unused})
			checkBytes(t, "Bits", got, err, bodyByGo(t, asn1.BitString{Bytes: b, BitLength: 8*n - unused}))
		}
	}
	for _, n := range []int{255, 256, 65534, 65535, 65536, 100000} {
		checkBits(t, api.Bits{B: randomBytes(r, n)})
		checkReadBits(t, append([]byte{0}, randomBytes(r, n)...))
	}
}

// rises tells by the document's words whether a body stands ahead of another one.
func rises(a, b []byte) bool {
	for i := range min(len(a), len(b)) {
		if a[i] != b[i] {
			return a[i] < b[i]
		}
	}
	return len(a) < len(b)
}

// checkSorted checks that bodies rise, and that they are just those that were handed in.
func checkSorted(t *testing.T, l [][]byte) {
	t.Helper()
	got := Sorted(l)
	if len(got) != len(l) {
		t.Fatalf("of %d bodies %d are left", len(l), len(got))
	}
	counts := map[string]int{}
	for i, b := range got {
		if i > 0 && rises(b, got[i-1]) {
			t.Errorf("%x stands behind %x", short(b), short(got[i-1]))
		}
		counts[string(b)]++
	}
	for _, b := range l {
		counts[string(b)]--
	}
	for b, n := range counts {
		if n != 0 {
			t.Errorf("%x: %d more than there were", b, n)
		}
	}
}

// P8.5: bodies in rising order.
func TestSorted(t *testing.T) {
	got := Sorted([][]byte{{2}, {1, 0xff}, {}, {1}, {0x80}, {2}, {0x7f}, {1, 0}, {0}})
	want := [][]byte{{}, {0}, {1}, {1, 0}, {1, 0xff}, {2}, {2}, {0x7f}, {0x80}}
	if !slices.EqualFunc(got, want, bytes.Equal) {
		t.Errorf("sorted they are %x", got)
	}
	for _, none := range [][][]byte{nil, {}} {
		if got := Sorted(none); len(got) != 0 {
			t.Errorf("none sorted are %x", got)
		}
	}
	checkSorted(t, [][]byte{nil})
	checkSorted(t, [][]byte{{1}, nil, {}, nil})
}

// P8.5: all orders of a few, those that are alike among them.
func TestSortedOfEachOrder(t *testing.T) {
	few := [][]byte{nil, {0}, {0, 0}, {1}, {0xff}, {0x7f, 1}, {1}}
	var orders func(done, left [][]byte)
	orders = func(done, left [][]byte) {
		if len(left) == 0 {
			checkSorted(t, done)
		}
		for i, b := range left {
			orders(append(slices.Clone(done), b), slices.Delete(slices.Clone(left), i, i+1))
		}
	}
	orders(nil, few)
}

// P8.5: lists of each length, of bodies that are often alike or begin alike.
func TestSortedOfEachLength(t *testing.T) {
	r := draws()
	for n := range 200 {
		l := make([][]byte, n)
		for i := range l {
			l[i] = bytes.Repeat([]byte{byte(r.Intn(3)) * 0x7f}, r.Intn(5))
			l[i] = append(l[i], randomBytes(r, r.Intn(2))...)
		}
		checkSorted(t, l)
	}
	long := make([][]byte, 5000)
	for i := range long {
		long[i] = randomBytes(r, r.Intn(4))
	}
	checkSorted(t, long)
}
