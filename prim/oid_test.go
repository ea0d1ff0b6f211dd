package prim

import (
	"bytes"
	"encoding/asn1"
	"math"
	"slices"
	"testing"

	"charter/api"
)

// groupsOf is a number's groups by the document's words.
func groupsOf(n uint64) []byte {
	groups := []byte{byte(n % 128)}
	for n /= 128; n > 0; n /= 128 {
		groups = append([]byte{byte(n%128 + 128)}, groups...)
	}
	return groups
}

// wantedOid is an identifier's body by the document's words; false, if it is none.
func wantedOid(l []uint32) ([]byte, bool) {
	if len(l) < 2 || len(l) > 16 || l[0] > 2 || l[0] < 2 && l[1] >= 40 || l[0] == 2 && uint64(l[1]) > 1<<32-81 {
		return nil, false
	}
	body := groupsOf(40*uint64(l[0]) + uint64(l[1]))
	for _, n := range l[2:] {
		body = append(body, groupsOf(uint64(n))...)
	}
	return body, true
}

func checkOid(t *testing.T, l []uint32) {
	t.Helper()
	got, err := Oid(l)
	want, is := wantedOid(l)
	if !is {
		checkRefused(t, "Oid", got, err, api.ErrArg)
		return
	}
	checkBytes(t, "Oid", got, err, want)
	read, err := ReadOid(want)
	if err != nil || !slices.Equal(read, l) {
		t.Errorf("%d is read as %d, %v", l, read, err)
	}
}

// oidOf reads a body by the document's words; false, if it is none's.
func oidOf(body []byte) ([]uint32, bool) {
	var numbers []uint64
	for len(body) > 0 {
		end := slices.IndexFunc(body, func(b byte) bool { return b < 128 }) + 1
		if end == 0 || end > 5 || body[0] == 128 {
			return nil, false
		}
		n := uint64(0)
		for _, b := range body[:end] {
			n = 128*n + uint64(b%128)
		}
		if n >= 1<<32 {
			return nil, false
		}
		numbers, body = append(numbers, n), body[end:]
	}
	if len(numbers) < 1 || len(numbers) > 15 {
		return nil, false
	}
	l := []uint32{0, uint32(numbers[0])}
	for l[0] < 2 && l[1] >= 40 {
		l[0], l[1] = l[0]+1, l[1]-40
	}
	for _, n := range numbers[1:] {
		l = append(l, uint32(n))
	}
	return l, true
}

func checkReadOid(t *testing.T, body []byte) bool {
	t.Helper()
	got, err := ReadOid(body)
	want, is := oidOf(body)
	if !is {
		checkError(t, "ReadOid", err, api.ErrForm)
		if got != nil {
			t.Errorf("ReadOid of %x is %d beside an error", short(body), got)
		}
		return false
	}
	if err != nil || !slices.Equal(got, want) {
		t.Errorf("ReadOid of %x is %d, %v, not %d", short(body), got, err, want)
	}
	again, err := Oid(got)
	checkBytes(t, "Oid of what was read", again, err, body)
	return true
}

// The numbers about each edge.
var arcs = []uint32{
	0, 1, 2, 3, 38, 39, 40, 41, 47, 48, 79, 80, 81, 119, 120, 126, 127, 128, 129, 255, 256, 16383 - 80, 16384 - 80, 16383, 16384, 16385,
	1<<21 - 81, 1<<21 - 80, 1<<21 - 1, 1 << 21, 1<<28 - 81, 1<<28 - 80, 1<<28 - 1, 1 << 28, 1<<31 - 1, 1 << 31,
	math.MaxUint32 - 82, math.MaxUint32 - 81, math.MaxUint32 - 80, math.MaxUint32 - 79, math.MaxUint32 - 40, math.MaxUint32 - 1, math.MaxUint32,
}

// P8.3: written out, that of the document first.
func TestOidWrittenOut(t *testing.T) {
	for _, c := range []struct {
		l    []uint32
		body string
	}{
		{[]uint32{1, 2, 840, 113549}, "2a 86 48 86 f7 0d"},
		{[]uint32{2, 5, 29, 19}, "55 1d 13"},
		{[]uint32{0, 0}, "00"},
		{[]uint32{0, 39}, "27"},
		{[]uint32{1, 0}, "28"},
		{[]uint32{1, 39}, "4f"},
		{[]uint32{2, 0}, "50"},
		{[]uint32{2, 47}, "7f"},
		{[]uint32{2, 48}, "81 00"},
		{[]uint32{2, 999, 3}, "88 37 03"},
		{[]uint32{2, math.MaxUint32 - 80}, "8f ff ff ff 7f"},
		{[]uint32{1, 2, math.MaxUint32, 0}, "2a 8f ff ff ff 7f 00"},
	} {
		got, err := Oid(c.l)
		checkBytes(t, "Oid", got, err, unhex(t, c.body))
		read, err := ReadOid(unhex(t, c.body))
		if err != nil || !slices.Equal(read, c.l) {
			t.Errorf("ReadOid of %s is %d, %v", c.body, read, err)
		}
	}
}

// P8.3, P8.7: each first number with each second one, and numbers of each size behind them.
func TestOidOfEachBeginning(t *testing.T) {
	for _, first := range arcs {
		for second := range uint32(300) {
			checkOid(t, []uint32{first, second})
		}
		for _, second := range arcs {
			checkOid(t, []uint32{first, second})
			for _, third := range arcs {
				checkOid(t, []uint32{first, second, third})
			}
		}
	}
	for n := range uint32(20000) {
		checkOid(t, []uint32{2, n, n})
	}
}

// P8.3: how many numbers there are.
func TestOidOfEachLength(t *testing.T) {
	r := draws()
	for n := range 40 {
		for _, fill := range arcs {
			l := slices.Repeat([]uint32{fill}, n)
			checkOid(t, l)
			if n > 1 {
				l[0], l[1] = 1, 3
				checkOid(t, l)
				l[0], l[1] = 2, math.MaxUint32-80
				checkOid(t, l)
				l[1]++
				checkOid(t, l)
			}
			body := []byte{}
			for range n {
				body = append(body, groupsOf(uint64(fill))...)
			}
			checkReadOid(t, body)
		}
		for range 200 {
			l := make([]uint32, n)
			for i := range l {
				l[i] = r.Uint32() >> r.Intn(32)
			}
			if n > 1 && r.Intn(8) > 0 {
				l[0], l[1] = l[0]%3, l[1]%40
			}
			checkOid(t, l)
		}
	}
	got, err := Oid(nil)
	checkRefused(t, "Oid of none", got, err, api.ErrArg)
	got, err = Oid([]uint32{1})
	checkRefused(t, "Oid of one number", got, err, api.ErrArg)
	got, err = Oid(make([]uint32, 17))
	checkRefused(t, "Oid of 17 numbers", got, err, api.ErrArg)
	got, err = Oid(make([]uint32, 16))
	checkBytes(t, "Oid of 16 numbers", got, err, make([]byte, 15))
	got, err = Oid(make([]uint32, 100000))
	checkRefused(t, "Oid of many numbers", got, err, api.ErrArg)
}

// P8.3: as Go's own encoding tells them.
func TestOidAsGoTellsIt(t *testing.T) {
	r := draws()
	for range 3000 {
		l := make([]uint32, 2+r.Intn(15))
		for i := range l {
			l[i] = r.Uint32() >> (1 + r.Intn(31))
		}
		l[0], l[1] = l[0]%3, l[1]%40
		byGo := asn1.ObjectIdentifier{}
		for _, n := range l {
			byGo = append(byGo, int(n))
		}
		got, err := Oid(l)
		checkBytes(t, "Oid", got, err, bodyByGo(t, byGo))
	}
}

// P8.3, P8.7: all bodies of two bytes at most, and all of six of those bytes that matter.
func TestReadOidOfAllShortBodies(t *testing.T) {
	var all []byte
	for b := range 256 {
		all = append(all, byte(b))
	}
	counts := map[bool]int{}
	for _, body := range append(allShort(all, 2), allShort([]byte{0, 1, 0x50, 0x7f, 0x80, 0x81, 0x8f, 0x90, 0xff}, 6)...) {
		counts[checkReadOid(t, body)]++
	}
	if counts[true] < 50000 || counts[false] < 50000 {
		t.Errorf("%d bodies are identifiers', %d aren't", counts[true], counts[false])
	}
	checkReadOid(t, nil)
}

// P8.3: numbers that are too great, in more groups than they need, or cut off, at each place.
func TestReadOidOfWrongBodies(t *testing.T) {
	for _, ahead := range []string{"", "2a", "2a 03", "8f ff ff ff 7f"} {
		for _, behind := range []string{"", "00", "05", "81 00"} {
			for _, wrong := range []string{"80", "80 00", "80 01", "80 80 05", "80 ff 7f", "81", "81 80", "ff ff ff ff", "90 80 80 80 00", "90 80 80 80 05", "ff ff ff ff 7f", "81 80 80 80 80 00", "9f ff ff ff 7f", "80 8f ff ff ff 7f", "82 80 80 80 80 80 80 80 80 05"} {
				b := unhex(t, ahead+wrong+behind)
				checkReadOid(t, b)
			}
			for _, right := range []string{"00", "7f", "81 00", "ff 7f", "8f ff ff ff 7f", "88 80 80 80 00"} {
				if !checkReadOid(t, unhex(t, ahead+right+behind)) {
					t.Errorf("%s isn't read", right)
				}
			}
		}
		for _, wrong := range []string{"80", "81", "80 05", "90 80 80 80 00", "ff ff ff ff 7f"} {
			_, err := ReadOid(unhex(t, ahead+wrong))
			checkError(t, "ReadOid of "+wrong, err, api.ErrForm)
		}
	}
}

// P8.3, P1: the longest body, one with a number more, and much longer ones.
func TestReadOidOfLongBodies(t *testing.T) {
	most := unhex(t, "8f ff ff ff 7f")
	got, err := ReadOid(bytes.Repeat(most, 15))
	if want := append([]uint32{2, math.MaxUint32 - 80}, slices.Repeat([]uint32{math.MaxUint32}, 14)...); err != nil || !slices.Equal(got, want) {
		t.Errorf("the longest one is %d, %v", got, err)
	}
	for _, body := range [][]byte{
		bytes.Repeat(most, 16), bytes.Repeat(most, 1000), append(bytes.Repeat(most, 15), 0), append(bytes.Repeat(most, 14), make([]byte, 2)...),
		make([]byte, 16), make([]byte, 75), make([]byte, 76), make([]byte, 1<<20), bytes.Repeat([]byte{0xff}, 1<<20), bytes.Repeat([]byte{0x80}, 1<<20),
		bytes.Repeat([]byte{0xff}, 75), append(bytes.Repeat([]byte{0x80}, 70), most...),
	} {
		got, err := ReadOid(body)
		checkError(t, "ReadOid of too long a body", err, api.ErrForm)
		if got != nil {
			t.Errorf("ReadOid of %x is %d", short(body), got)
		}
	}
	r := draws()
	for range 20000 {
		body := randomBytes(r, r.Intn(80))
		for i := range body {
			if r.Intn(3) > 0 {
				body[i] &= 127
			}
		}
		checkReadOid(t, body)
	}
}
