package rsa

import (
	"bytes"
	gorsa "crypto/rsa"
	"math/big"
	"math/rand"
	"slices"
	"testing"

	"charter/api"
)

func hidden(t *testing.T, p api.Public, text, fill []byte) []byte {
	t.Helper()
	code, err := Hide(p, text, fill)
	if err != nil {
		t.Fatalf("Hide of %d bytes: %v", len(text), err)
	}
	return code
}

// P6.3, P6.5: what is hidden is what Go reckons, at each length of a text, and is shown as it was.
func TestHideAndShowOfEachLength(t *testing.T) {
	r := draws()
	for _, k := range []parts{drawn(r, 62, 0, 65537), drawn(r, 63, 5, 3), drawn(r, 128, 0, 65537)} {
		for n := range k.size() - 10 {
			text, fill := randomBytes(r, n), filler(r, k.size()-3-n)
			code := hidden(t, k.public(), text, fill)
			if want := raisedByGo(toHide(fill, text), k.e, k.n); !bytes.Equal(code, want) {
				t.Fatalf("%d bytes by %d are hidden as %x, not %x", n, k.size(), code, want)
			}
			got, err := Show(k.secret(), code)
			if err != nil || !bytes.Equal(got, text) {
				t.Fatalf("%x is shown as %x, %v", text, got, err)
			}
		}
	}
}

// P6.3, P6.5: at each kind of key.
func TestHideAndShowByEachKey(t *testing.T) {
	r := draws()
	for _, k := range keys(r) {
		for _, n := range []int{0, 1, 16, k.size() - 11} {
			text, fill := randomBytes(r, n), filler(r, k.size()-3-n)
			code := hidden(t, k.public(), text, fill)
			if want := raisedByGo(toHide(fill, text), k.e, k.n); !bytes.Equal(code, want) {
				t.Errorf("%d bytes by %d are hidden as %x, not %x", n, k.size(), code, want)
			}
			if got, err := Show(k.secret(), code); err != nil || !bytes.Equal(got, text) {
				t.Errorf("%x by %d bytes is shown as %x, %v", text, k.size(), got, err)
			}
		}
	}
}

// P6.3: a text's own bytes 00, and such that look like a layout, stay.
func TestHideOfTextsLikeLayouts(t *testing.T) {
	r := draws()
	k := drawn(r, 62, 0, 65537)
	for _, text := range [][]byte{{0}, {0, 0, 0}, make([]byte, 51), {0, 2, 1, 1, 1, 1, 1, 1, 1, 1, 0, 5}, bytes.Repeat([]byte{255}, 51)} {
		code := hidden(t, k.public(), text, filler(r, 62-3-len(text)))
		if got, err := Show(k.secret(), code); err != nil || !bytes.Equal(got, text) {
			t.Errorf("%x is shown as %x, %v", text, got, err)
		}
	}
}

// P6.3, R1: a text that is too long is told ahead of a filling that doesn't fit.
func TestHideOfLongTexts(t *testing.T) {
	r := draws()
	for _, k := range []parts{drawn(r, 62, 0, 65537), drawn(r, 128, 0, 3)} {
		for _, n := range []int{k.size() - 10, k.size() - 3, k.size() - 2, k.size(), k.size() + 1, 70000} {
			for _, fill := range [][]byte{nil, {0}, filler(r, max(0, k.size()-3-n)), filler(r, 8), make([]byte, 8), filler(r, k.size())} {
				got, err := Hide(k.public(), make([]byte, n), fill)
				checkBytesRefused(t, "Hide of a long text", got, err, api.ErrLong)
			}
		}
	}
}

// P6.3: the filling is just as long as it has to be, and no byte of it is 00.
func TestHideWithOtherFillings(t *testing.T) {
	r := draws()
	k := drawn(r, 62, 0, 65537)
	for _, n := range []int{0, 5, 51} {
		text, size := randomBytes(r, n), 62-3-n
		for other := range 130 {
			if other == size {
				continue
			}
			got, err := Hide(k.public(), text, filler(r, other))
			checkBytesRefused(t, "Hide with a filling of another length", got, err, api.ErrArg)
		}
		for at := range size {
			fill := filler(r, size)
			fill[at] = 0
			got, err := Hide(k.public(), text, fill)
			checkBytesRefused(t, "Hide with a byte 00", got, err, api.ErrArg)
			// As many bytes that aren't 00 as are needed, and one that is.
			got, err = Hide(k.public(), text, slices.Insert(filler(r, size), at, 0))
			checkBytesRefused(t, "Hide with a byte 00 among enough", got, err, api.ErrArg)
		}
	}
	for _, fill := range [][]byte{bytes.Repeat([]byte{1}, 8), bytes.Repeat([]byte{255}, 8)} {
		hidden(t, k.public(), make([]byte, 51), fill)
	}
}

// P6.3, R1: keys that may not be are told first.
func TestHideAndShowByBadKeys(t *testing.T) {
	r := draws()
	k := drawn(r, 64, 0, 65537)
	code := hidden(t, k.public(), []byte("abc"), filler(r, 58))
	for _, p := range badPublics(k) {
		for _, text := range [][]byte{nil, []byte("abc"), make([]byte, 200)} {
			for _, fill := range [][]byte{nil, filler(r, 58), make([]byte, 58)} {
				got, err := Hide(p, text, fill)
				checkBytesRefused(t, "Hide by a bad key", got, err, api.ErrArg)
			}
		}
	}
	for _, s := range badSecrets(k) {
		for _, code := range [][]byte{nil, code, code[1:], bytes.Repeat([]byte{255}, 64)} {
			got, err := Show(s, code)
			checkBytesRefused(t, "Show by a bad key", got, err, api.ErrArg)
		}
	}
}

// P6.3: what is shown has the size's bytes.
func TestShowOfOtherLengths(t *testing.T) {
	r := draws()
	k := drawn(r, 62, 3, 65537)
	code := hidden(t, k.public(), []byte("abc"), filler(r, 56))
	for code[0] != 0 {
		code = hidden(t, k.public(), []byte("abc"), filler(r, 56))
	}
	if text, err := Show(k.secret(), code); err != nil || string(text) != "abc" {
		t.Errorf("what begins with 00 is shown as %x, %v", text, err)
	}
	for _, other := range [][]byte{nil, {}, {0}, code[1:], code[:61], append([]byte{0}, code...), append(bytes.Clone(code), 0), append(make([]byte, 300), code...), make([]byte, 5000)} {
		got, err := Show(k.secret(), other)
		checkBytesRefused(t, "Show of another length", got, err, api.ErrPad)
	}
}

// P6.3: what is shown is a number below N, though one above is left as the same.
func TestShowOfNumbersAboveN(t *testing.T) {
	r := draws()
	k := drawn(r, 62, 4, 65537)
	code := hidden(t, k.public(), []byte("abc"), filler(r, 56))
	above := new(big.Int).Add(new(big.Int).SetBytes(code), k.n)
	for above.BitLen() <= 62*8 {
		got, err := Show(k.secret(), above.FillBytes(make([]byte, 62)))
		checkBytesRefused(t, "Show of a number above N", got, err, api.ErrPad)
		above.Add(above, k.n)
	}
	for _, other := range []*big.Int{big.NewInt(0), big.NewInt(1), new(big.Int).Sub(k.n, big.NewInt(1)), k.n, new(big.Int).Add(k.n, big.NewInt(1)), power256(62, -1)} {
		got, err := Show(k.secret(), other.FillBytes(make([]byte, 62)))
		checkBytesRefused(t, "Show at an edge", got, err, api.ErrPad)
	}
}

// layout is 62 bytes that begin so; none of the others is 00.
func layout(r *rand.Rand, ahead ...byte) []byte { return append(ahead, filler(r, 62-len(ahead))...) }

// P6.3: what isn't laid out so isn't shown.
func TestShowOfOtherLayouts(t *testing.T) {
	r := draws()
	k := drawn(r, 62, 0, 65537)
	others := [][]byte{
		layout(r, 0, 1, 1, 1, 1, 1, 1, 1, 1, 1, 0),
		layout(r, 0, 0, 1, 1, 1, 1, 1, 1, 1, 1, 0),
		layout(r, 0, 3, 1, 1, 1, 1, 1, 1, 1, 1, 0),
		layout(r, 1, 2, 1, 1, 1, 1, 1, 1, 1, 1, 0),
		layout(r, 2, 1, 1, 1, 1, 1, 1, 1, 1, 1, 0),
		layout(r, 0, 2), // no 00 behind
		make([]byte, 62),
		toSign(62, []byte("abc")),
		layout(r, 0, 2, 1, 1, 1, 1, 1, 1, 1, 0, 0, 0, 5),
	}
	for n := range 8 {
		others = append(others, layout(r, slices.Concat([]byte{0, 2}, filler(r, n), []byte{0})...))
	}
	for _, laid := range others {
		got, err := Show(k.secret(), raisedByGo(laid, k.e, k.n))
		checkBytesRefused(t, "Show of another layout", got, err, api.ErrPad)
	}
}

// P6.3: a filling of eight bytes, of all bytes, and all between; no text behind may be.
func TestShowOfEachFilling(t *testing.T) {
	r := draws()
	k := drawn(r, 62, 0, 65537)
	for n := 8; n <= 59; n++ {
		text := randomBytes(r, 59-n)
		got, err := Show(k.secret(), raisedByGo(toHide(filler(r, n), text), k.e, k.n))
		if err != nil || !bytes.Equal(got, text) {
			t.Errorf("%x behind %d bytes is shown as %x, %v", text, n, got, err)
		}
	}
}

// P6.3: another D shows something else, or nothing.
func TestShowByAnotherSecret(t *testing.T) {
	r := draws()
	k := drawn(r, 62, 0, 65537)
	code := hidden(t, k.public(), []byte("abc"), filler(r, 56))
	s := k.secret()
	s.D = natOf(new(big.Int).Sub(k.d, big.NewInt(1)))
	got, err := Show(s, code)
	checkBytesRefused(t, "Show by another D", got, err, api.ErrPad)
	// D of 1 shows what is laid out as it is.
	s.D = api.Nat{1}
	if got, err := Show(s, toHide(filler(r, 56), []byte("abc"))); err != nil || string(got) != "abc" {
		t.Errorf("D of 1 shows %x, %v", got, err)
	}
}

// P6.3: no bit of what is hidden may be turned without what is shown being another one, or none.
func TestShowOfTurnedBits(t *testing.T) {
	r := draws()
	k := drawn(r, 62, 0, 65537)
	code := hidden(t, k.public(), []byte("a key of 16 byte"), filler(r, 43))
	for at := range 8 * len(code) {
		turned := bytes.Clone(code)
		turned[at/8] ^= 1 << (at % 8)
		got, err := Show(k.secret(), turned)
		laid := raisedByGo(turned, k.d, k.n)
		if new(big.Int).SetBytes(turned).Cmp(k.n) < 0 && laid[0] == 0 && laid[1] == 2 && bytes.IndexByte(laid[2:], 0) >= 8 {
			if err != nil || !bytes.HasSuffix(laid, got) || string(got) == "a key of 16 byte" {
				t.Errorf("%x is shown as %x, %v", turned, got, err)
			}
			continue
		}
		checkBytesRefused(t, "Show of a turned bit", got, err, api.ErrPad)
	}
}

// P6.3: as Go's own RSA hides and shows.
func TestAsGoHides(t *testing.T) {
	r := draws()
	k := drawn(r, 128, 0, 65537)
	theirs := &gorsa.PrivateKey{PublicKey: gorsa.PublicKey{N: k.n, E: 65537}, D: k.d, Primes: []*big.Int{k.p, k.q}}
	for _, n := range []int{0, 1, 16, 117} {
		text := randomBytes(r, n)
		code, err := gorsa.EncryptPKCS1v15(r, &theirs.PublicKey, text)
		if err != nil {
			t.Fatal(err)
		}
		if got, err := Show(k.secret(), code); err != nil || !bytes.Equal(got, text) {
			t.Errorf("%x is shown as %x, %v", text, got, err)
		}
		got, err := gorsa.DecryptPKCS1v15(r, theirs, hidden(t, k.public(), text, filler(r, 125-n)))
		if err != nil || !bytes.Equal(got, text) {
			t.Errorf("%x is hidden so that Go shows %x, %v", text, got, err)
		}
	}
}
