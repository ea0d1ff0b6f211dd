package name

import (
	"bytes"
	"encoding/asn1"
	"math/rand"
	"slices"
	"strings"
	"testing"

	"charter/api"
)

// bodies are those of the elements that bytes are, one behind the other, all of that mark (or of any, if it is 0); false,
// if they aren't just such ones.
func bodies(mark byte, b []byte) ([]byte, [][]byte, bool) {
	var marks []byte
	var l [][]byte
	for len(b) > 0 {
		if len(b) < 2 || mark != 0 && b[0] != mark {
			return nil, nil, false
		}
		ahead, n := 2, int(b[1])
		switch {
		case n == 0x81 && len(b) > 2 && b[2] > 127:
			ahead, n = 3, int(b[2])
		case n == 0x82 && len(b) > 3 && b[2] > 0:
			ahead, n = 4, 256*int(b[2])+int(b[3])
		case n > 127:
			return nil, nil, false
		}
		if len(b) < ahead+n {
			return nil, nil, false
		}
		marks, l = append(marks, b[0]), append(l, b[ahead:ahead+n])
		b = b[ahead+n:]
	}
	return marks, l, true
}

// typeOf is the identifier that Go's own encoding reads; false, if it reads none.
func typeOf(body []byte) ([]uint32, bool) {
	var of asn1.ObjectIdentifier
	// The numbers that Go takes have 31 bits at most, so the tests turn no bytes of greater ones.
	if _, err := asn1.Unmarshal(element(0x06, body), &of); err != nil {
		return nil, false
	}
	var l []uint32
	for _, arc := range of {
		l = append(l, uint32(arc))
	}
	return l, true
}

// nameOf reads bytes by the document's words; false, if they are no name's that may be.
func nameOf(b []byte) (api.Name, bool) {
	_, whole, ok := bodies(0x30, b)
	if !ok || len(whole) != 1 {
		return nil, false
	}
	_, steps, ok := bodies(0x31, whole[0])
	if !ok {
		return nil, false
	}
	var n api.Name
	for _, step := range steps {
		_, attrs, ok := bodies(0x30, step)
		if !ok {
			return nil, false
		}
		var l []api.Attr
		for _, attr := range attrs {
			marks, parts, ok := bodies(0, attr)
			if !ok || len(parts) != 2 || marks[0] != 0x06 {
				return nil, false
			}
			kind, ok := typeOf(parts[0])
			if !ok {
				return nil, false
			}
			l = append(l, api.Attr{Type: kind, Mark: marks[1], Text: parts[1]})
		}
		n = append(n, l)
	}
	_, may := wanted(n)
	return n, may
}

// checkNone checks that bytes are read as no name.
func checkNone(t *testing.T, b []byte) {
	t.Helper()
	got, err := Read(b)
	if err != api.ErrForm || got != nil {
		t.Errorf("Read of %x is %v, %v", b[:min(len(b), 80)], got, err)
	}
}

// checkRead holds Read against the document's words, and what is written of a name against what it was read of; it tells
// whether the bytes are a name's.
func checkRead(t *testing.T, b []byte) bool {
	t.Helper()
	want, is := nameOf(b)
	if !is {
		checkNone(t, b)
		return false
	}
	got, err := Read(b)
	if err != nil || !sameName(got, want) {
		t.Errorf("Read of %x is %v, %v, not %v", b, got, err, want)
	}
	again, err := Write(got)
	if err != nil || !bytes.Equal(again, b) {
		t.Errorf("%x is written as %x, %v", b, again, err)
	}
	return true
}

// P9.2: bytes that are written out, such as are a name's and such as aren't.
func TestReadOfLittle(t *testing.T) {
	for b, want := range map[string]api.Name{
		"30 00": nil,
		"30 0c 31 0a 30 08 06 03 55 04 03 0c 01 61":                                     stepsOf("a"),
		"30 18 31 16 30 09 06 03 55 04 03 0c 02 c3 a4 30 09 06 03 55 04 06 13 02 41 54": {{word(0x0c, "ä"), {Type: []uint32{2, 5, 4, 6}, Mark: 0x13, Text: []byte("AT")}}},
	} {
		if got, err := Read(unhex(t, b)); err != nil || !sameName(got, want) {
			t.Errorf("Read of %s is %v, %v", b, got, err)
		}
		checkRead(t, unhex(t, b))
	}
	for _, b := range []string{
		"", "30", "00", "30 01", "30 00 00", "30 00 30 00", "30 80 00 00", "30 81 00", "30 82 00 00", "31 00", "10 00", "a0 00", "05 00", "1f 00", "3f 00",
		"30 01 31", "30 02 05 00", "30 02 31 00", "30 02 30 00", "30 04 31 02 30 00", "30 06 31 04 30 02 06 00", "30 06 31 04 30 02 0c 00",
	} {
		checkNone(t, unhex(t, b))
	}
	checkNone(t, nil)
}

// P9.2: a step and an attribute that are as they may be, but for one thing.
func TestReadOfOneFault(t *testing.T) {
	kind, text := unhex(t, "06 03 55 04 03"), unhex(t, "0c 01 61")
	attr := element(0x30, kind, text)
	next := element(0x30, kind, unhex(t, "0c 01 62"))
	step := element(0x31, attr)
	checkRead(t, element(0x30, element(0x31, attr, next), step))
	for _, fault := range [][]byte{
		{}, kind, text, slices.Concat(text, kind), slices.Concat(kind, text, text), slices.Concat(kind, kind, text), slices.Concat(kind, kind), slices.Concat(kind, text, []byte{0}),
		slices.Concat(kind, unhex(t, "0c 00")), slices.Concat(kind, unhex(t, "16 01 61")), slices.Concat(kind, unhex(t, "13 01 40")), slices.Concat(kind, unhex(t, "0c 01 ff")),
		slices.Concat(kind, unhex(t, "0c 81 01 61")), slices.Concat(kind, unhex(t, "0c 82 00 01 61")), slices.Concat(kind, unhex(t, "0c 02 61")), slices.Concat(kind, unhex(t, "2c 03 0c 01 61")),
		slices.Concat(kind, unhex(t, "1f 01 61")), slices.Concat(kind, element(0x0c, bytes.Repeat([]byte{'a'}, 65))), slices.Concat(unhex(t, "06 00"), text), slices.Concat(unhex(t, "06 01 80"), text),
		slices.Concat(unhex(t, "06 03 55 04 83"), text), slices.Concat(unhex(t, "06 04 55 04 80 03"), text), slices.Concat(unhex(t, "06 06 55 90 80 80 80 00"), text), slices.Concat(unhex(t, "26 03 55 04 03"), text),
		slices.Concat(unhex(t, "05 03 55 04 03"), text), slices.Concat(element(0x06, []byte{0x55}, bytes.Repeat([]byte{1}, 15)), text), slices.Concat(unhex(t, "06 81 03 55 04 03"), text),
	} {
		checkNone(t, element(0x30, element(0x31, element(0x30, fault))))
		checkNone(t, element(0x30, step, element(0x31, element(0x30, fault))))
		checkNone(t, element(0x30, element(0x31, element(0x30, fault)), step))
	}
	for _, fault := range [][]byte{{}, {0}, slices.Concat(next, attr), slices.Concat(attr, attr), slices.Concat(attr, unhex(t, "05 00")), slices.Concat(attr, []byte{0x30}), kind, text, element(0x31, attr)} {
		checkNone(t, element(0x30, element(0x31, fault)))
		checkNone(t, element(0x30, step, element(0x31, fault)))
		checkNone(t, element(0x30, element(0x31, fault), step))
	}
	for _, fault := range [][]byte{{0}, attr, kind, slices.Concat(step, attr), slices.Concat(step, []byte{0x31}), slices.Concat(step, unhex(t, "31 80 00 00"))} {
		checkNone(t, element(0x30, fault))
	}
	for mark := range 256 {
		is := mark == 0x30
		if checkRead(t, element(byte(mark), step)) != is || checkRead(t, element(0x30, element(0x31, element(byte(mark), kind, text)))) != is {
			t.Errorf("a name's or an attribute's mark may be %02x: %v", mark, !is)
		}
		if is := mark == 0x31; checkRead(t, element(0x30, element(byte(mark), attr))) != is {
			t.Errorf("a step's mark may be %02x: %v", mark, !is)
		}
		if is := mark == 0x0c || mark == 0x13; checkRead(t, element(0x30, element(0x31, element(0x30, kind, element(byte(mark), []byte("a")))))) != is {
			t.Errorf("a text's mark may be %02x: %v", mark, !is)
		}
	}
}

// P9.2: steps and attributes of each number; what is too long is no name.
func TestReadOfEachNumber(t *testing.T) {
	kind := unhex(t, "06 03 55 04 03")
	var attrs [][]byte
	for i := range 12 {
		attrs = append(attrs, element(0x30, kind, []byte{0x0c, 1, byte('a' + i)}))
		if is := i < 4; checkRead(t, element(0x30, element(0x31, attrs...))) != is {
			t.Errorf("%d attributes may be: %v", i+1, !is)
		}
		steps := slices.Repeat(element(0x31, attrs[0]), i+1)
		if is := i < 8; checkRead(t, element(0x30, steps)) != is {
			t.Errorf("%d steps may be: %v", i+1, !is)
		}
	}
	checkNone(t, element(0x30, bytes.Repeat(element(0x31, attrs[0]), 5000)))
	checkNone(t, element(0x30, element(0x31, bytes.Repeat(attrs[0], 6000))))
	checkNone(t, element(0x30, bytes.Repeat([]byte{0x31, 0}, 32000)))
	checkNone(t, bytes.Repeat([]byte{0x30, 0x80}, 1<<20))
	checkNone(t, make([]byte, 1<<20))
}

// P9.2: all of the orders of four attributes.
func TestReadOfEachOrder(t *testing.T) {
	rising := inOrder(word(0x0c, "b"), word(0x13, "a"), word(0x0c, "aa"), api.Attr{Type: []uint32{2, 5, 4, 10}, Mark: 0x0c, Text: []byte("a")})
	var l [][]byte
	for _, a := range rising {
		b, _ := attrWanted(a)
		l = append(l, b)
	}
	may := 0
	for n := range 256 {
		of := []int{n % 4, n / 4 % 4, n / 16 % 4, n / 64}
		if checkRead(t, element(0x30, element(0x31, l[of[0]], l[of[1]], l[of[2]], l[of[3]]))) {
			may++
		}
	}
	if may != 1 {
		t.Errorf("%d orders may be", may)
	}
}

// someNames are names of many kinds whose identifiers' numbers are short.
func someNames() []api.Name {
	country := api.Attr{Type: []uint32{2, 5, 4, 6}, Mark: 0x13, Text: []byte("AT")}
	long := word(0x0c, strings.Repeat("x", 64))
	return []api.Name{
		nil, stepsOf("a"), stepsOf("a", "b", "\u20ac"), {{country}, {word(0x13, "Root")}},
		{inOrder(word(0x0c, "a"), word(0x13, "a"), word(0x0c, "A"), country)}, {inOrder(long, country, api.Attr{Type: []uint32{1, 2, 840, 113549, 1, 9, 1}, Mark: 0x0c, Text: long.Text})},
	}
}

// P9.2, P9.5: names with each byte turned to each other one, each byte left out, and each byte put in.
func TestEachByteTurned(t *testing.T) {
	counts := map[bool]int{}
	for _, n := range someNames() {
		b, err := Write(n)
		if err != nil || !checkRead(t, b) {
			t.Fatal(n, err)
		}
		for at := range len(b) + 1 {
			for v := range 256 {
				if at < len(b) {
					turned := bytes.Clone(b)
					turned[at] = byte(v)
					counts[checkRead(t, turned)]++
				}
				if checkRead(t, slices.Insert(bytes.Clone(b), at, byte(v))) {
					t.Errorf("%x is a name's with %02x put in at %d", b, v, at)
				}
			}
			if at < len(b) && (checkRead(t, b[:at]) || checkRead(t, slices.Delete(bytes.Clone(b), at, at+1))) {
				t.Errorf("%x is a name's with less of it from %d on", b, at)
			}
		}
	}
	if counts[true] < 1000 || counts[false] < 1000 {
		t.Errorf("with bytes turned %d are names, %d aren't", counts[true], counts[false])
	}
}

// drawnBytes are a name's, but perhaps for some faults in how it is laid out.
func drawnBytes(r *rand.Rand) []byte {
	fault := func(mark byte, parts ...[]byte) []byte {
		switch r.Intn(60) {
		case 0:
			mark ^= 1 << r.Intn(8)
		case 1:
			parts = append(parts, []byte{byte(r.Intn(256))})
		case 2:
			parts = append(parts, element(mark))
		case 3:
			parts = slices.Concat(parts, parts)
		case 4:
			slices.Reverse(parts)
		case 5:
			parts = nil
		}
		b := element(mark, parts...)
		if r.Intn(60) == 0 {
			b[1] ^= 1 << r.Intn(8)
		}
		return b
	}
	texts := []string{"a", "b", "aa", "A", "\u00e4", "@", strings.Repeat("a", 64), strings.Repeat("b", 64)}
	var steps [][]byte
	for range r.Intn(4) {
		var attrs [][]byte
		for range 1 + r.Intn(2) {
			kind := pick(r, [][]byte{{0x55, 4, 3}, {0x55, 4, 6}, {0x2a, 0x86, 0x48}, {0x2a}})
			attrs = append(attrs, fault(0x30, fault(0x06, kind), fault(pick(r, []byte{0x0c, 0x0c, 0x13}), []byte(pick(r, texts)))))
		}
		slices.SortFunc(attrs, bytes.Compare)
		steps = append(steps, fault(0x31, attrs...))
	}
	return fault(0x30, steps...)
}

// P9.2, P9.5: names of all kinds, and such as are nearly ones.
func TestReadOfNearlyNames(t *testing.T) {
	r := draws()
	counts := map[bool]int{}
	for range 60000 {
		counts[checkRead(t, drawnBytes(r))]++
	}
	if counts[true] < 5000 || counts[false] < 5000 {
		t.Errorf("%d are names, %d aren't", counts[true], counts[false])
	}
}

// P9.5, P1: any bytes; what is read is written as those bytes, and read again as it was.
func FuzzRead(f *testing.F) {
	for _, n := range append(someNames(), longest()) {
		b, err := Write(n)
		if err != nil {
			f.Fatal(err)
		}
		f.Add(b)
	}
	f.Fuzz(func(t *testing.T, b []byte) {
		n, err := Read(b)
		if err != nil {
			checkNone(t, b)
			return
		}
		checkMay(t, n, true)
		if again, err := Write(n); err != nil || !bytes.Equal(again, b) {
			t.Errorf("%x is written as %x, %v", b, again, err)
		}
		if !Alike(n, n) || !Within(n, n) {
			t.Errorf("%v isn't alike to itself", n)
		}
	})
}

func BenchmarkReadTheLongest(b *testing.B) {
	written, err := Write(longest())
	for b.Loop() {
		if _, readErr := Read(written); err != nil || readErr != nil {
			b.Fatal(err, readErr)
		}
	}
}
