package aes

import (
	"bytes"
	"crypto/aes"
	"encoding/hex"
	"errors"
	"math/rand"
	"strings"
	"testing"

	"charter/api"
)

// The tests' own draws: the same at each run.
func draws() *rand.Rand { return rand.New(rand.NewSource(3)) }

func randomBytes(r *rand.Rand, n int) []byte {
	b := make([]byte, n)
	r.Read(b)
	return b
}

func unhex(t *testing.T, s string) []byte {
	t.Helper()
	b, err := hex.DecodeString(strings.ReplaceAll(s, " ", ""))
	if err != nil {
		t.Fatal(err)
	}
	return b
}

// product is of two polynomials, modulo x^8 + x^4 + x^3 + x + 1.
func product(a, b byte) byte {
	var p int
	for i := range 8 {
		if b>>i&1 == 1 {
			p ^= int(a) << i
		}
	}
	for i := 15; i >= 8; i-- {
		if p>>i&1 == 1 {
			p ^= 0x11b << (i - 8)
		}
	}
	return byte(p)
}

func wantedSubstitute(b byte) byte {
	var y byte
	for c := range 256 {
		if product(b, byte(c)) == 1 {
			y = byte(c)
		}
	}
	var s byte
	for i := range 8 {
		bit := byte(0x63) >> i & 1
		for _, k := range []int{0, 4, 5, 6, 7} {
			bit ^= y >> ((i + k) % 8) & 1
		}
		s |= bit << i
	}
	return s
}

// P3.1
func TestSubstituteGoesByItsRule(t *testing.T) {
	for b := range 256 {
		if got, want := Substitute(byte(b)), wantedSubstitute(byte(b)); got != want {
			t.Errorf("Substitute(%02x) is %02x, not %02x", b, got, want)
		}
	}
	for b, want := range map[byte]byte{0x00: 0x63, 0x01: 0x7c, 0x53: 0xed, 0x52: 0x00, 0xff: 0x16} {
		if got := Substitute(b); got != want {
			t.Errorf("Substitute(%02x) is %02x, not %02x", b, got, want)
		}
	}
}

// P3.4
func TestEachByteIsTheSubstituteOfOne(t *testing.T) {
	of := map[byte]int{}
	for b := range 256 {
		s := Substitute(byte(b))
		if other, ok := of[s]; ok {
			t.Errorf("%02x is the substitute of %02x and of %02x", s, other, b)
		}
		of[s] = b
	}
	if len(of) != 256 {
		t.Errorf("%d bytes are substitutes", len(of))
	}
}

// P3.1: the example of FIPS 197's appendix A.1.
func TestKeysOfAKnownKey(t *testing.T) {
	want := []string{
		"2b7e1516 28aed2a6 abf71588 09cf4f3c", "a0fafe17 88542cb1 23a33939 2a6c7605",
		"f2c295f2 7a96b943 5935807a 7359f67f", "3d80477d 4716fe3e 1e237e44 6d7a883b",
		"ef44a541 a8525b7f b671253b db0bad00", "d4d1c6f8 7c839d87 caf2b8bc 11f915bc",
		"6d88a37a 110b3efd dbf98641 ca0093fd", "4e54f70e 5f5fc9f3 84a64fb2 4ea6dc4f",
		"ead27321 b58dbad2 312bf560 7f8d292f", "ac7766f3 19fadc21 28d12941 575c006e",
		"d014f9a8 c9ee2589 e13f0cc8 b6630ca6",
	}
	keys, err := Keys(unhex(t, want[0]))
	if err != nil || len(keys) != len(want) {
		t.Fatalf("%d keys, %v", len(keys), err)
	}
	for i, k := range keys {
		if !bytes.Equal(k, unhex(t, want[i])) {
			t.Errorf("key %d: %x, not %s", i, k, want[i])
		}
	}
}

// P3.1: word by word, out of the key ahead.
func TestKeysGoByTheirRule(t *testing.T) {
	r := draws()
	all := [][]byte{make([]byte, 16), bytes.Repeat([]byte{0xff}, 16)}
	for range 100 {
		all = append(all, randomBytes(r, 16))
	}
	for _, key := range all {
		keys, err := Keys(key)
		if err != nil || len(keys) != 11 || !bytes.Equal(keys[0], key) {
			t.Fatalf("%x: %x, %v", key, keys, err)
		}
		number := byte(1)
		for i := 1; i < len(keys); i++ {
			ahead, want := keys[i-1], make([]byte, 16)
			turned := []byte{ahead[13], ahead[14], ahead[15], ahead[12]}
			for j := range 16 {
				if j < 4 {
					want[j] = ahead[j] ^ wantedSubstitute(turned[j])
				} else {
					want[j] = ahead[j] ^ want[j-4]
				}
				if j == 0 {
					want[j] ^= number
				}
			}
			if !bytes.Equal(keys[i], want) {
				t.Errorf("%x: key %d is %x, not %x", key, i, keys[i], want)
			}
			number = product(number, 2)
		}
	}
}

// P3.2: the examples of FIPS 197 and of NIST SP 800-38A.
func TestKnownBlocks(t *testing.T) {
	const key = "2b7e1516 28aed2a6 abf71588 09cf4f3c"
	for _, row := range []struct{ key, block, code string }{
		{"00010203 04050607 08090a0b 0c0d0e0f", "00112233 44556677 8899aabb ccddeeff", "69c4e0d8 6a7b0430 d8cdb780 70b4c55a"},
		{key, "3243f6a8 885a308d 313198a2 e0370734", "3925841d 02dc09fb dc118597 196a0b32"},
		{key, "6bc1bee2 2e409f96 e93d7e11 7393172a", "3ad77bb4 0d7a3660 a89ecaf3 2466ef97"},
		{key, "ae2d8a57 1e03ac9c 9eb76fac 45af8e51", "f5d3d585 03b9699d e785895a 96fdbaaf"},
		{key, "30c81c46 a35ce411 e5fbc119 1a0a52ef", "43b1cd7f 598ece23 881b00e3 ed030688"},
		{key, "f69f2445 df4f9b17 ad2b417b e66c3710", "7b0c785e 27e8ad3f 82232071 04725dd4"},
		{strings.Repeat("00", 16), strings.Repeat("00", 16), "66e94bd4 ef8a2c3b 884cfa59 ca342b2e"},
	} {
		k, block, code := unhex(t, row.key), unhex(t, row.block), unhex(t, row.code)
		if got, err := Encrypt(k, block); err != nil || !bytes.Equal(got, code) {
			t.Errorf("Encrypt(%x, %x) is %x, %v, not %x", k, block, got, err, code)
		}
		if got, err := Decrypt(k, code); err != nil || !bytes.Equal(got, block) {
			t.Errorf("Decrypt(%x, %x) is %x, %v, not %x", k, code, got, err, block)
		}
	}
}

// P3.2: held against Go's own.
func TestDrawnBlocks(t *testing.T) {
	r := draws()
	for range 2000 {
		key, block := randomBytes(r, 16), randomBytes(r, 16)
		cipher, err := aes.NewCipher(key)
		if err != nil {
			t.Fatal(err)
		}
		want := make([]byte, 16)
		cipher.Encrypt(want, block)
		if got, err := Encrypt(key, block); err != nil || !bytes.Equal(got, want) {
			t.Fatalf("Encrypt(%x, %x) is %x, %v, not %x", key, block, got, err, want)
		}
		cipher.Decrypt(want, block)
		if got, err := Decrypt(key, block); err != nil || !bytes.Equal(got, want) {
			t.Fatalf("Decrypt(%x, %x) is %x, %v, not %x", key, block, got, err, want)
		}
	}
}

// P3.2: each bit alone, of the key and of the block.
func TestBlocksOfOneBit(t *testing.T) {
	for bit := range 128 {
		one, none := make([]byte, 16), make([]byte, 16)
		one[bit/8] = 1 << (bit % 8)
		for _, pair := range [][2][]byte{{one, none}, {none, one}, {one, one}} {
			cipher, err := aes.NewCipher(pair[0])
			if err != nil {
				t.Fatal(err)
			}
			want := make([]byte, 16)
			cipher.Encrypt(want, pair[1])
			if got, err := Encrypt(pair[0], pair[1]); err != nil || !bytes.Equal(got, want) {
				t.Errorf("Encrypt(%x, %x) is %x, %v, not %x", pair[0], pair[1], got, err, want)
			}
			cipher.Decrypt(want, pair[1])
			if got, err := Decrypt(pair[0], pair[1]); err != nil || !bytes.Equal(got, want) {
				t.Errorf("Decrypt(%x, %x) is %x, %v, not %x", pair[0], pair[1], got, err, want)
			}
		}
	}
}

func checkRefused(t *testing.T, call string, n, m int, zero bool, err error) {
	t.Helper()
	if !zero || err != api.ErrArg {
		t.Errorf("%s of %d and %d bytes: %v, or an answer beside it", call, n, m, err)
	}
	var spot *api.Spot
	if errors.As(err, &spot) {
		t.Errorf("%s: the error is at a place", call)
	}
}

// P3.1
func TestKeysRefusesOtherLengths(t *testing.T) {
	for _, n := range []int{0, 1, 15, 17, 24, 32, 1000} {
		keys, err := Keys(make([]byte, n, n+16))
		checkRefused(t, "Keys", n, 0, keys == nil, err)
	}
	keys, err := Keys(nil)
	checkRefused(t, "Keys", 0, 0, keys == nil, err)
}

// P3.2
func TestBlocksOfOtherLengthsAreRefused(t *testing.T) {
	lengths := []int{0, 1, 15, 16, 17, 24, 32, 1000}
	for _, n := range lengths {
		for _, m := range lengths {
			if n == 16 && m == 16 {
				continue
			}
			key, block := make([]byte, n, n+16), make([]byte, m, m+16)
			code, err := Encrypt(key, block)
			checkRefused(t, "Encrypt", n, m, code == nil, err)
			code, err = Decrypt(key, block)
			checkRefused(t, "Decrypt", n, m, code == nil, err)
		}
	}
	whole := make([]byte, 16)
	for _, pair := range [][2][]byte{{nil, nil}, {whole, nil}, {nil, whole}} {
		code, err := Encrypt(pair[0], pair[1])
		checkRefused(t, "Encrypt", len(pair[0]), len(pair[1]), code == nil, err)
		code, err = Decrypt(pair[0], pair[1])
		checkRefused(t, "Decrypt", len(pair[0]), len(pair[1]), code == nil, err)
	}
}

// P3.3: what lies behind a handed-in slice, within its capacity, is the caller's too; a key may be its own block.
func TestNothingIsChanged(t *testing.T) {
	r := draws()
	a, b := randomBytes(r, 64), randomBytes(r, 64)
	a0, b0 := bytes.Clone(a), bytes.Clone(b)
	for _, block := range [][]byte{a[:16], b[:16]} {
		if _, err := Keys(a[:16]); err != nil {
			t.Fatal(err)
		}
		if _, err := Encrypt(a[:16], block); err != nil {
			t.Fatal(err)
		}
		if _, err := Decrypt(a[:16], block); err != nil {
			t.Fatal(err)
		}
	}
	if !bytes.Equal(a, a0) || !bytes.Equal(b, b0) {
		t.Error("what was handed in, or what is behind, was changed")
	}
}

// P3.3: an answer is neither shared with another one, nor with what it was made of.
func TestCodesAreNewMemory(t *testing.T) {
	for name, call := range map[string]func(key, block []byte) ([]byte, error){"Encrypt": Encrypt, "Decrypt": Decrypt} {
		key, block := randomBytes(draws(), 16), randomBytes(draws(), 16)
		first, err := call(key, block)
		if err != nil {
			t.Fatal(err)
		}
		want := bytes.Clone(first)
		again, _ := call(key, block)
		clear(again[:cap(again)])
		third, _ := call(key, block)
		clear(key)
		clear(block)
		if !bytes.Equal(first, want) || !bytes.Equal(third, want) {
			t.Errorf("%s: an answer shares memory", name)
		}
	}
}

// P3.3: nor do the keys of one answer share any, beyond their lengths too.
func TestKeysAreNewMemory(t *testing.T) {
	key := randomBytes(draws(), 16)
	wanted, err := Keys(key)
	if err != nil {
		t.Fatal(err)
	}
	for i := range wanted {
		keys, _ := Keys(key)
		clear(keys[i][:cap(keys[i])])
		for j := range keys {
			if j != i && !bytes.Equal(keys[j], wanted[j]) {
				t.Errorf("keys %d and %d share memory", i, j)
			}
		}
	}
	again, _ := Keys(key)
	clear(key)
	for i := range wanted {
		if !bytes.Equal(again[i], wanted[i]) {
			t.Errorf("key %d shares memory with another answer, or with the key handed in", i)
		}
	}
}

// P3.4
func TestEachWayTakesTheOtherBack(t *testing.T) {
	r := draws()
	for range 1000 {
		key, block := randomBytes(r, 16), randomBytes(r, 16)
		code, err := Encrypt(key, block)
		if err != nil {
			t.Fatal(err)
		}
		if back, err := Decrypt(key, code); err != nil || !bytes.Equal(back, block) {
			t.Errorf("%x: %x is encrypted as %x, and that decrypted as %x, %v", key, block, code, back, err)
		}
		if code, err = Decrypt(key, block); err != nil {
			t.Fatal(err)
		}
		if back, err := Encrypt(key, code); err != nil || !bytes.Equal(back, block) {
			t.Errorf("%x: %x is decrypted as %x, and that encrypted as %x, %v", key, block, code, back, err)
		}
	}
}

// P3.4: each block beside a drawn one, one byte being another, has a code of its own.
func TestUnlikeBlocksHaveUnlikeCodes(t *testing.T) {
	r := draws()
	key, block := randomBytes(r, 16), randomBytes(r, 16)
	for name, call := range map[string]func(key, block []byte) ([]byte, error){"Encrypt": Encrypt, "Decrypt": Decrypt} {
		of := map[string]string{}
		for at := range block {
			for c := range 256 {
				other := bytes.Clone(block)
				other[at] = byte(c)
				code, err := call(key, other)
				if err != nil {
					t.Fatal(err)
				}
				if elder, ok := of[string(code)]; ok && elder != string(other) {
					t.Errorf("%s: %x and %x both lead to %x", name, elder, other, code)
				}
				of[string(code)] = string(other)
			}
		}
	}
}

func BenchmarkEncrypt(b *testing.B) {
	key, block := make([]byte, 16), make([]byte, 16)
	for b.Loop() {
		Encrypt(key, block)
	}
}

func BenchmarkDecrypt(b *testing.B) {
	key, block := make([]byte, 16), make([]byte, 16)
	for b.Loop() {
		Decrypt(key, block)
	}
}
