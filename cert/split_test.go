package cert

import (
	"bytes"
	"slices"
	"testing"

	"charter/api"
)

// checkEncode checks what a body and a signature make, and what is split of it; whatever they are, if they aren't too
// long together.
func checkEncode(t *testing.T, body, sig []byte) bool {
	t.Helper()
	got, err := Encode(body, sig)
	part := 1 + len(sig)
	if part <= 65535 {
		part = len(words.bits(sig))
	}
	if 1+len(sig) > 65535 || len(body)+15+part > 65535 {
		checkError(t, "Encode", err, api.ErrLong)
		if got != nil {
			t.Errorf("Encode tells %x beside an error", short(got))
		}
		return false
	}
	if want := words.certificate(body, sig); err != nil || !bytes.Equal(got, want) {
		t.Errorf("Encode of %x and %x is %x, %v, not %x", short(body), short(sig), short(got), err, short(want))
	}
	is := fit(func() { bodyOf(0x30, body) })
	if split, _ := checkDecode(t, got); split != is {
		t.Errorf("%x is split, encoded: %v", short(body), split)
	}
	return true
}

// P10.2: bodies and signatures of all kinds.
func TestEncodeOfLittle(t *testing.T) {
	for _, x := range []struct{ body, sig, want string }{
		{"", "", "30 12 30 0d 06 09 2a864886f70d01010b 05 00 03 01 00"},
		{"30 00", "", "30 14 30 00 30 0d 06 09 2a864886f70d01010b 05 00 03 01 00"},
		{"30 01 ff", "01 02", "30 17 30 01 ff 30 0d 06 09 2a864886f70d01010b 05 00 03 03 00 01 02"},
		{"ff 00", "80", "30 15 ff 00 30 0d 06 09 2a864886f70d01010b 05 00 03 02 00 80"},
	} {
		if got, err := Encode(unhex(x.body), unhex(x.sig)); err != nil || !bytes.Equal(got, unhex(x.want)) {
			t.Errorf("Encode of %s and %s is %x, %v", x.body, x.sig, got, err)
		}
		checkEncode(t, unhex(x.body), unhex(x.sig))
	}
	checkEncode(t, nil, nil)
	for _, body := range []string{
		"30", "30 01", "30 80", "30 81 7f", "30 02 ff", "30 00 00", "30 00 30 00", "31 00",
		"05 00", "10 00", "70 00", "b0 00", "1f 00", "30 01 ff", "30 03 ff ff ff", "30 02 1f 80", "a0 00",
	} {
		checkEncode(t, unhex(body), []byte{1})
	}
}

// P10.2: signatures of each length and bodies of each length, up to what is too long.
func TestEncodeOfEachLength(t *testing.T) {
	held := 0
	bodies := []int{0, 1, 100, 109, 110, 111, 112, 113, 236, 237, 238, 239, 240, 1000,
		65510, 65511, 65512, 65513, 65514, 65515, 65516, 65517, 65518, 65519, 65531, 65532, 65535, 65536, 65537, 1 << 20}
	sigs := []int{0, 1, 2, 61, 64, 125, 126, 127, 128, 129, 253, 254, 255, 256, 257, 30000,
		65510, 65511, 65512, 65513, 65514, 65515, 65516, 65517, 65533, 65534, 65535, 65536, 65537, 1 << 20}
	for _, n := range bodies {
		for _, m := range sigs {
			if checkEncode(t, bytes.Repeat([]byte{0x30}, n), bytes.Repeat([]byte{0xff}, m)) {
				held++
			}
			if n < 4 {
				continue
			}
			body := make([]byte, n)
			copy(body, []byte{0x30, 0x82, byte((n - 4) >> 8), byte(n - 4)})
			checkEncode(t, body, make([]byte, m))
		}
	}
	// The longest ones: 65535 less the kind's 15, and what a part of so many bytes has.
	for _, x := range []struct {
		body, sig int
		may       bool
	}{
		{0, 65515, true}, {0, 65516, false}, {65517, 0, true}, {65518, 0, false}, {65388, 128, true}, {65389, 128, false},
		{65389, 127, true}, {65390, 127, false}, {65391, 126, true}, {65392, 126, false}, {1, 65515, false}, {0, 65534, false}, {0, 65535, false}, {65520, 0, false},
	} {
		if may := checkEncode(t, make([]byte, x.body), make([]byte, x.sig)); may != x.may {
			t.Errorf("of %d and %d bytes a certificate may be: %v", x.body, x.sig, may)
		}
	}
	if held < 100 {
		t.Errorf("%d pairs weren't too long", held)
	}
}

// P10.2: a body is whatever its mark and its length tell, and what stands in it isn't looked at.
func TestSplitOfAnyBody(t *testing.T) {
	r := draws()
	for _, n := range []int{0, 1, 2, 100, 127, 128, 200, 255, 256, 1000, 65000, 65510, 65511, 65512, 65513} {
		for m := range 4 {
			body := element(0x30, randomBytes(r, n))
			if may := checkEncode(t, body, randomBytes(r, m)); may != (len(body)+18+m <= 65535) {
				t.Errorf("of %d and %d bytes a certificate may be: %v", len(body), m, may)
			}
		}
	}
}

// P10.2: what isn't split: one thing is amiss.
func TestSplitOfOneFault(t *testing.T) {
	body, kind, sig := words.body(plain()), words.kind(11), words.bits([]byte("sign"))
	check := func(what string, is bool, b []byte) {
		t.Helper()
		if split, decoded := checkDecode(t, b); split != is || decoded != is {
			t.Errorf("%s: split: %v, decoded: %v", what, split, decoded)
		}
	}
	check("a certificate", true, element(0x30, body, kind, sig))
	check("without a signature's bytes", true, element(0x30, body, kind, words.bits(nil)))
	for what, b := range map[string][]byte{
		"nothing": nil, "of nothing": element(0x30), "body alone": element(0x30, body), "body": body,
		"no signature": element(0x30, body, kind), "no kind": element(0x30, body, sig),
		"no body": element(0x30, kind, sig), "kind behind": element(0x30, body, sig, kind),
		"kind ahead": element(0x30, kind, body, sig),
		"two bodies": element(0x30, body, body, kind, sig), "two signatures": element(0x30, body, kind, sig, sig),
		"a byte behind":             append(element(0x30, body, kind, sig), 0),
		"a byte within":             element(0x30, body, kind, sig, []byte{0}),
		"a whole within":            element(0x30, body, kind, sig, element(0x30)),
		"twice":                     slices.Repeat(element(0x30, body, kind, sig), 2),
		"bits without a byte ahead": element(0x30, body, kind, element(0x03)),
		"unused bits of none":       element(0x30, body, kind, element(0x03, []byte{1})),
		"bytes for bits":            element(0x30, body, kind, element(0x04, []byte("\x00sign"))),
		"a long length":             append([]byte{0x30, 0x82, 0, 20}, make([]byte, 20)...),
		"no end":                    append([]byte{0x30, 0x80}, slices.Concat(body, kind, sig, []byte{0, 0})...),
	} {
		check(what, false, b)
	}
	for unused := range 256 {
		for _, last := range []byte{0, 1, 2, 0x40, 0x80, 0xff} {
			check("unused bits", unused == 0, element(0x30, body, kind, element(0x03, []byte{byte(unused), 1, last})))
		}
	}
	for _, k := range otherKinds() {
		check("another kind", false, element(0x30, body, k, sig))
	}
	for mark := range 256 {
		check("another mark", mark == 0x30, element(byte(mark), body, kind, sig))
		check("another body's mark", mark == 0x30, element(0x30, append([]byte{byte(mark)}, body[1:]...), kind, sig))
		check("another kind's mark", mark == 0x30, element(0x30, body, append([]byte{byte(mark)}, kind[1:]...), sig))
		check("another signature's mark", mark == 0x03, element(0x30, body, kind, append([]byte{byte(mark)}, sig[1:]...)))
	}
	for n := range 300 {
		check("many of them", false, bytes.Repeat([]byte{0x30, 0x80}, n))
		check("many wholes", false, bytes.Repeat([]byte{0x30, 0x00}, n))
	}
	check("many bytes", false, make([]byte, 1<<20))
	check("a very long one", false, append([]byte{0x30, 0x83, 0x10, 0, 0}, make([]byte, 1<<20)...))
}
