package cbc

import (
	"bytes"
	"crypto/aes"
	"crypto/cipher"
	"encoding/hex"
	"errors"
	"math/rand"
	"strings"
	"testing"

	"charter/api"
)

// The tests' own draws: the same at each run.
func draws() *rand.Rand { return rand.New(rand.NewSource(4)) }

func randomBytes(r *rand.Rand, n int) []byte {
	b := make([]byte, n)
	r.Read(b)
	return b
}

func unhex(t *testing.T, s string) []byte {
	t.Helper()
	b, err := hex.DecodeString(strings.ReplaceAll(s, " ", ""))
	if err != nil {
		t.Fatal(err)
	}
	return b
}

func wantedFilled(b []byte) []byte {
	n := 1
	for (len(b)+n)%16 != 0 {
		n++
	}
	return append(bytes.Clone(b), bytes.Repeat([]byte{byte(n)}, n)...)
}

// chained is whole blocks, chained by Go's own means.
func chained(t *testing.T, key, begin, whole []byte) []byte {
	t.Helper()
	c, err := aes.NewCipher(key)
	if err != nil {
		t.Fatal(err)
	}
	codes := make([]byte, len(whole))
	cipher.NewCBCEncrypter(c, begin).CryptBlocks(codes, whole)
	return codes
}

func sealed(t *testing.T, key, begin, text []byte) []byte {
	t.Helper()
	codes, err := Seal(key, begin, text)
	if err != nil {
		t.Fatalf("a text of %d bytes isn't sealed: %v", len(text), err)
	}
	return codes
}

func checkRefused(t *testing.T, call string, got []byte, err, want error) {
	t.Helper()
	if got != nil || err != want {
		t.Errorf("%s is %d bytes, %v, not %v", call, len(got), err, want)
	}
	var spot *api.Spot
	if errors.As(err, &spot) {
		t.Errorf("%s: the error is at a place", call)
	}
}

// P4.1: each length about the edges of blocks, and what is taken off again.
func TestFillAndEmptyOfEachLength(t *testing.T) {
	r := draws()
	for n := range 100 {
		text := randomBytes(r, n)
		filled := Fill(text)
		if !bytes.Equal(filled, wantedFilled(text)) {
			t.Errorf("Fill(%x) is %x", text, filled)
		}
		if got, err := Empty(filled); err != nil || !bytes.Equal(got, text) {
			t.Errorf("Empty(%x) is %x, %v", filled, got, err)
		}
	}
	if got := Fill(nil); !bytes.Equal(got, bytes.Repeat([]byte{0x10}, 16)) {
		t.Errorf("no text is filled as %x", got)
	}
}

// P4.1: no bound is told for them.
func TestFillAndEmptyAboveTheBoundOfSealing(t *testing.T) {
	for _, n := range []int{api.MaxText, api.MaxText + 1, 10 * api.MaxText} {
		text := randomBytes(draws(), n)
		filled := Fill(text)
		if !bytes.Equal(filled, wantedFilled(text)) {
			t.Errorf("%d bytes are filled as %d", n, len(filled))
		}
		if got, err := Empty(filled); err != nil || !bytes.Equal(got, text) {
			t.Errorf("of %d filled bytes %d are left, %v", len(filled), len(got), err)
		}
	}
}

// P4.1: a text that ends as if it were filled already.
func TestATextIsFilledTwice(t *testing.T) {
	for n := range 17 {
		once := Fill(bytes.Repeat([]byte{7}, n))
		twice := Fill(once)
		if len(twice) != len(once)+16 {
			t.Errorf("%x is filled as %x", once, twice)
		}
		if got, err := Empty(twice); err != nil || !bytes.Equal(got, once) {
			t.Errorf("Empty(%x) is %x, %v", twice, got, err)
		}
	}
}

// P4.1
func TestEmptyRefusesOtherLengths(t *testing.T) {
	for n := range 100 {
		if n > 0 && n%16 == 0 {
			continue
		}
		for last := range 18 {
			got, err := Empty(bytes.Repeat([]byte{byte(last)}, n))
			checkRefused(t, "Empty", got, err, api.ErrPad)
		}
	}
	got, err := Empty(nil)
	checkRefused(t, "Empty", got, err, api.ErrPad)
	// Those behind, within its capacity, aren't its own.
	got, err = Empty(bytes.Repeat([]byte{16}, 16)[:0])
	checkRefused(t, "Empty", got, err, api.ErrPad)
	got, err = Empty(bytes.Repeat([]byte{2}, 15))
	checkRefused(t, "Empty of fifteen bytes 02", got, err, api.ErrPad)
}

// P4.1: each byte that may stand last, in one block and in more.
func TestEmptyOfEachLastByte(t *testing.T) {
	for _, size := range []int{16, 32, 256, 272} {
		for last := range 256 {
			b := bytes.Repeat([]byte{byte(last)}, size)
			got, err := Empty(b)
			if last < 1 || last > 16 {
				checkRefused(t, "Empty", got, err, api.ErrPad)
			} else if err != nil || !bytes.Equal(got, b[:size-last]) {
				t.Errorf("of %d bytes %02x %x is left, %v", size, last, got, err)
			}
		}
	}
}

// P4.1: each byte of a filling counts, and no byte ahead of it.
func TestEmptySeesEachFillingByte(t *testing.T) {
	for n := range 33 {
		text := bytes.Repeat([]byte{0xaa}, n)
		filled := Fill(text)
		for at := range filled {
			for _, turn := range []byte{0x01, 0x10, 0x80, 0xff} {
				b := bytes.Clone(filled)
				b[at] ^= turn
				got, err := Empty(b)
				if at < n {
					if err != nil || !bytes.Equal(got, b[:n]) {
						t.Errorf("Empty(%x) is %x, %v", b, got, err)
					}
				} else if at < len(b)-1 {
					checkRefused(t, "Empty", got, err, api.ErrPad)
				} else if want := b[:len(b)-1]; b[at] == 1 {
					if err != nil || !bytes.Equal(got, want) {
						t.Errorf("Empty(%x) is %x, %v", b, got, err)
					}
				} else {
					checkRefused(t, "Empty", got, err, api.ErrPad)
				}
			}
		}
	}
}

// P4.2: the examples of RFC 3602 and of NIST SP 800-38A; what fills them is chained behind.
func TestKnownTexts(t *testing.T) {
	for _, row := range []struct{ key, begin, text, codes string }{
		{"06a92140 36b8a15b 512e03d5 34120006", "3dafba42 9d9eb430 b422da80 2c9fac41",
			hex.EncodeToString([]byte("Single block msg")), "e353779c 1079aeb8 2708942d be77181a"},
		{"c286696d 887c9aa0 611bbb3e 2025a45a", "562e1799 6d093d28 ddb3ba69 5a2e6f58",
			"00010203 04050607 08090a0b 0c0d0e0f 10111213 14151617 18191a1b 1c1d1e1f",
			"d296cd94 c2cccf8a 3a863028 b5e1dc0a 7586602d 253cfff9 1b8266be a6d61ab1"},
		{"2b7e1516 28aed2a6 abf71588 09cf4f3c", "00010203 04050607 08090a0b 0c0d0e0f",
			"6bc1bee2 2e409f96 e93d7e11 7393172a ae2d8a57 1e03ac9c 9eb76fac 45af8e51" +
				"30c81c46 a35ce411 e5fbc119 1a0a52ef f69f2445 df4f9b17 ad2b417b e66c3710",
			"7649abac 8119b246 cee98e9b 12e9197d 5086cb9b 507219ee 95db113a 917678b2" +
				"73bed6b8 e3c1743b 7116e69e 22229516 3ff1caa1 681fac09 120eca30 7586e1a7" +
				"8cb82807 230e1321 d3fae00d 18cc2012"},
	} {
		key, begin, text, codes := unhex(t, row.key), unhex(t, row.begin), unhex(t, row.text), unhex(t, row.codes)
		got := sealed(t, key, begin, text)
		if len(got) != len(text)+16 || !bytes.HasPrefix(got, codes) {
			t.Errorf("Seal(%x, %x, %x) is %x, not %x and what fills it", key, begin, text, got, codes)
		}
		if back, err := Open(key, begin, got); err != nil || !bytes.Equal(back, text) {
			t.Errorf("Open(%x, %x, %x) is %x, %v", key, begin, got, back, err)
		}
	}
}

// P4.2: held against Go's own, at each length about the edges of blocks and at the greatest ones.
func TestSealAndOpenOfEachLength(t *testing.T) {
	r := draws()
	lengths := []int{1000, 4096, api.MaxText - 17, api.MaxText - 16, api.MaxText - 15, api.MaxText - 1, api.MaxText}
	for n := range 100 {
		lengths = append(lengths, n)
	}
	for _, n := range lengths {
		key, begin, text := randomBytes(r, 16), randomBytes(r, 16), randomBytes(r, n)
		want := chained(t, key, begin, wantedFilled(text))
		if got := sealed(t, key, begin, text); !bytes.Equal(got, want) {
			t.Errorf("a text of %d bytes isn't sealed as it should be", n)
		}
		if got, err := Open(key, begin, want); err != nil || !bytes.Equal(got, text) {
			t.Errorf("a text of %d bytes is opened as one of %d, %v", n, len(got), err)
		}
	}
}

// P4.2: of no text there is a code, too.
func TestSealOfNoText(t *testing.T) {
	key, begin := randomBytes(draws(), 16), make([]byte, 16)
	want := chained(t, key, begin, bytes.Repeat([]byte{16}, 16))
	for _, text := range [][]byte{nil, {}} {
		if got := sealed(t, key, begin, text); !bytes.Equal(got, want) {
			t.Errorf("no text is sealed as %x, not %x", got, want)
		}
	}
	if got, err := Open(key, begin, want); err != nil || len(got) != 0 {
		t.Errorf("no text is opened as %x, %v", got, err)
	}
}

// P4.2: what may not be goes ahead of what is above a bound.
func TestKeysAndBeginningsOfOtherLengthsAreRefused(t *testing.T) {
	lengths := []int{0, 1, 15, 16, 17, 24, 32, 1000}
	text, long := make([]byte, 32), make([]byte, api.MaxText+32)
	for _, n := range lengths {
		for _, m := range lengths {
			if n == 16 && m == 16 {
				continue
			}
			key, begin := make([]byte, n, n+16), make([]byte, m, m+16)
			for _, b := range [][]byte{nil, text, text[:31], long} {
				got, err := Seal(key, begin, b)
				checkRefused(t, "Seal", got, err, api.ErrArg)
				got, err = Open(key, begin, b)
				checkRefused(t, "Open", got, err, api.ErrArg)
			}
		}
	}
	for _, pair := range [][2][]byte{{nil, nil}, {text[:16], nil}, {nil, text[:16]}} {
		got, err := Seal(pair[0], pair[1], text)
		checkRefused(t, "Seal", got, err, api.ErrArg)
		got, err = Open(pair[0], pair[1], text)
		checkRefused(t, "Open", got, err, api.ErrArg)
	}
}

// P4.2
func TestSealRefusesLongTexts(t *testing.T) {
	key, begin := make([]byte, 16), make([]byte, 16)
	for _, n := range []int{api.MaxText + 1, api.MaxText + 15, api.MaxText + 16, 2 * api.MaxText} {
		got, err := Seal(key, begin, make([]byte, n))
		checkRefused(t, "Seal", got, err, api.ErrLong)
	}
}

// P4.2: codes that aren't whole blocks may not be, however many there are.
func TestOpenRefusesCodesOfOtherLengths(t *testing.T) {
	const most = api.MaxText + 16
	key, begin := make([]byte, 16), make([]byte, 16)
	for _, n := range []int{0, 1, 15, 17, 31, 33, most - 15, most - 1, most + 1, most + 15, most + 17} {
		got, err := Open(key, begin, make([]byte, n, n+16))
		checkRefused(t, "Open", got, err, api.ErrArg)
	}
	got, err := Open(key, begin, nil)
	checkRefused(t, "Open", got, err, api.ErrArg)
	for _, n := range []int{most + 16, most + 32, 2 * most} {
		got, err := Open(key, begin, make([]byte, n))
		checkRefused(t, "Open", got, err, api.ErrLong)
	}
}

// P4.2: the bound of opening is one of codes: a few texts are opened that are too long to be sealed.
func TestOpenGoesByTheCodesLength(t *testing.T) {
	key, begin := randomBytes(draws(), 16), randomBytes(draws(), 16)
	for n := api.MaxText; n < api.MaxText+20; n++ {
		text := make([]byte, n)
		got, err := Open(key, begin, chained(t, key, begin, wantedFilled(text)))
		if n >= api.MaxText+16 {
			checkRefused(t, "Open", got, err, api.ErrLong)
		} else if err != nil || !bytes.Equal(got, text) {
			t.Errorf("a text of %d bytes is opened as one of %d, %v", n, len(got), err)
		}
	}
}

// P4.2: codes of blocks that no text fills so.
func TestOpenRefusesWhatIsNotFilled(t *testing.T) {
	r := draws()
	for _, last := range []byte{0, 2, 3, 15, 16, 17, 32, 255} {
		for _, size := range []int{16, 32, api.MaxText + 16} {
			key, begin, whole := randomBytes(r, 16), randomBytes(r, 16), bytes.Repeat([]byte{1}, size)
			whole[size-1] = last
			got, err := Open(key, begin, chained(t, key, begin, whole))
			checkRefused(t, "Open", got, err, api.ErrPad)
		}
	}
}

// P4.3: what lies behind a handed-in slice, within its capacity, is the caller's too; one may be handed in twice.
func TestNothingIsChanged(t *testing.T) {
	r := draws()
	for _, n := range []int{0, 1, 15, 16, 17, 100} {
		all := randomBytes(r, 300)
		all0 := bytes.Clone(all)
		key, begin, text := all[:16], all[16:32], all[32:32+n]
		filled := append(Fill(text), 1, 2, 3)
		codes := append(sealed(t, key, begin, text), 1, 2, 3)
		filled0, codes0 := bytes.Clone(filled), bytes.Clone(codes)
		if _, err := Empty(filled[:len(filled)-3]); err != nil {
			t.Fatal(err)
		}
		sealed(t, key, key, key)
		if _, err := Open(key, begin, codes[:len(codes)-3]); err != nil {
			t.Fatal(err)
		}
		Open(key, key, key)
		if !bytes.Equal(all, all0) || !bytes.Equal(filled, filled0) || !bytes.Equal(codes, codes0) {
			t.Errorf("%d bytes: what was handed in, or what is behind, was changed", n)
		}
	}
}

// P4.3: an answer shares no memory with another one, nor with what it was made of, beyond their lengths too.
func TestAnswersAreNewMemory(t *testing.T) {
	r := draws()
	for _, n := range []int{0, 1, 16, 31, 32, 100} {
		key, begin, text := randomBytes(r, 16), randomBytes(r, 16), randomBytes(r, n)
		filled, codes := Fill(text), sealed(t, key, begin, text)
		for name, call := range map[string]func() ([]byte, []byte){
			"Fill":  func() ([]byte, []byte) { b := bytes.Clone(text); return b, Fill(b) },
			"Empty": func() ([]byte, []byte) { b := bytes.Clone(filled); e, _ := Empty(b); return b, e },
			"Seal":  func() ([]byte, []byte) { b := bytes.Clone(text); s, _ := Seal(key, begin, b); return b, s },
			"Open":  func() ([]byte, []byte) { b := bytes.Clone(codes); o, _ := Open(key, begin, b); return b, o },
		} {
			made, first := call()
			want, made0 := bytes.Clone(first), bytes.Clone(made)
			_, again := call()
			clear(again[:cap(again)])
			clear(made)
			if _, third := call(); !bytes.Equal(first, want) || !bytes.Equal(third, want) {
				t.Errorf("%s: an answer shares memory", name)
			}
			made, first = call()
			clear(first[:cap(first)])
			if !bytes.Equal(made, made0) {
				t.Errorf("%s: an answer is what was handed in", name)
			}
		}
	}
}

// P4.3: nor with the key or the beginning.
func TestKeysAndBeginningsAreNotKept(t *testing.T) {
	r := draws()
	key, begin, text := randomBytes(r, 16), randomBytes(r, 16), randomBytes(r, 40)
	want := chained(t, key, begin, wantedFilled(text))
	got := sealed(t, key, begin, text)
	key0, begin0 := bytes.Clone(key), bytes.Clone(begin)
	clear(key)
	clear(begin)
	if !bytes.Equal(got, want) || !bytes.Equal(sealed(t, key0, begin0, text), want) {
		t.Error("a key or a beginning is kept")
	}
}

// P4.4
func TestWhatWasSealedIsOpenedAsItWas(t *testing.T) {
	r := draws()
	for range 500 {
		key, begin, text := randomBytes(r, 16), randomBytes(r, 16), randomBytes(r, r.Intn(200))
		codes := sealed(t, key, begin, text)
		if got, err := Open(key, begin, codes); err != nil || !bytes.Equal(got, text) {
			t.Errorf("%x by %x and %x is opened as %x, %v", text, key, begin, got, err)
		}
	}
}

// P4.4: texts that are alike but for a byte, or but for their ends.
func TestUnlikeTextsHaveUnlikeCodes(t *testing.T) {
	r := draws()
	key, begin := randomBytes(r, 16), randomBytes(r, 16)
	of := map[string]string{}
	check := func(text []byte) {
		codes := string(sealed(t, key, begin, text))
		if elder, ok := of[codes]; ok && elder != string(text) {
			t.Errorf("%x and %x have one code", elder, text)
		}
		of[codes] = string(text)
	}
	for n := range 50 {
		check(make([]byte, n))
		check(bytes.Repeat([]byte{1}, n))
		check(bytes.Repeat([]byte{16}, n))
		for at := range n {
			one := make([]byte, n)
			one[at] = 1
			check(one)
		}
	}
	for b := range 256 {
		check([]byte{byte(b)})
	}
}

// P4.4: a beginning's turned byte turns its own one of the first block.
func TestATurnedBeginning(t *testing.T) {
	r := draws()
	for _, n := range []int{16, 17, 31, 32, 33, 100} {
		key, begin, text := randomBytes(r, 16), randomBytes(r, 16), randomBytes(r, n)
		codes := sealed(t, key, begin, text)
		for at := range 16 {
			for _, turn := range []byte{0x01, 0x10, 0x80, 0xff} {
				other, want := bytes.Clone(begin), bytes.Clone(text)
				other[at] ^= turn
				want[at] ^= turn
				if got, err := Open(key, other, codes); err != nil || !bytes.Equal(got, want) {
					t.Errorf("%x, turned at %d by %02x: %x, %v", text, at, turn, got, err)
				}
			}
		}
	}
}

// P4.2, P4.4: of a shorter text it may turn what fills it.
func TestATurnedBeginningOfAShortText(t *testing.T) {
	r := draws()
	for n := range 15 {
		key, begin, text := randomBytes(r, 16), randomBytes(r, 16), randomBytes(r, n)
		codes := sealed(t, key, begin, text)
		for at := n; at < 16; at++ {
			other := bytes.Clone(begin)
			other[at] ^= 0x80
			got, err := Open(key, other, codes)
			checkRefused(t, "Open", got, err, api.ErrPad)
		}
	}
}

func BenchmarkSealMost(b *testing.B) {
	key, begin, text := make([]byte, 16), make([]byte, 16), make([]byte, api.MaxText)
	for b.Loop() {
		Seal(key, begin, text)
	}
}

func BenchmarkOpenMost(b *testing.B) {
	key, begin := make([]byte, 16), make([]byte, 16)
	codes, err := Seal(key, begin, make([]byte, api.MaxText))
	if err != nil {
		b.Fatal(err)
	}
	for b.Loop() {
		Open(key, begin, codes)
	}
}
