package sha

import (
	"bytes"
	"crypto/sha256"
	"encoding/binary"
	"encoding/hex"
	"errors"
	"math/big"
	"math/rand"
	"strings"
	"testing"

	"charter/api"
)

// The tests' own draws: the same at each run.
func draws() *rand.Rand { return rand.New(rand.NewSource(1)) }

func randomWords(r *rand.Rand) [8]uint32 {
	var v [8]uint32
	for i := range v {
		v[i] = r.Uint32()
	}
	return v
}

func randomBlock(r *rand.Rand) [64]byte {
	var block [64]byte
	r.Read(block[:])
	return block
}

func rightwards(x uint32, by uint) uint32 { return x>>by | x<<(32-by) }

// rootOfPrime is the first 32 bits of the fractional part of the k-th root of p.
func rootOfPrime(p int64, k int64) uint32 {
	scaled := new(big.Int).Lsh(big.NewInt(p), uint(32*k))
	low, high := big.NewInt(0), new(big.Int).Lsh(big.NewInt(1), 48)
	for one := big.NewInt(1); new(big.Int).Sub(high, low).Cmp(one) > 0; {
		middle := new(big.Int).Add(low, high)
		middle.Rsh(middle, 1)
		if new(big.Int).Exp(middle, big.NewInt(k), nil).Cmp(scaled) > 0 {
			high = middle
		} else {
			low = middle
		}
	}
	return uint32(low.Uint64())
}

func firstPrimes(n int) []int64 {
	var primes []int64
	for p := int64(2); len(primes) < n; p++ {
		if big.NewInt(p).ProbablyPrime(10) {
			primes = append(primes, p)
		}
	}
	return primes
}

func TestConstantsAreRoots(t *testing.T) {
	for i, p := range firstPrimes(64) {
		if want := rootOfPrime(p, 3); constants[i] != want {
			t.Errorf("constant %d: %08x, not %08x", i, constants[i], want)
		}
	}
	for i, p := range firstPrimes(8) {
		if want := rootOfPrime(p, 2); beginning[i] != want {
			t.Errorf("beginning %d: %08x, not %08x", i, beginning[i], want)
		}
	}
}

func TestScheduleGoesByItsRule(t *testing.T) {
	r := draws()
	blocks := [][64]byte{{}, [64]byte(bytes.Repeat([]byte{0xff}, 64))}
	for range 50 {
		blocks = append(blocks, randomBlock(r))
	}
	for _, block := range blocks {
		w := Schedule(block)
		for i := range 16 {
			if want := binary.BigEndian.Uint32(block[4*i:]); w[i] != want {
				t.Fatalf("%x: word %d is %08x, not %08x", block, i, w[i], want)
			}
		}
		for i := 16; i < 64; i++ {
			x, y := w[i-15], w[i-2]
			s0 := rightwards(x, 7) ^ rightwards(x, 18) ^ (x >> 3)
			s1 := rightwards(y, 17) ^ rightwards(y, 19) ^ (y >> 10)
			if want := w[i-16] + s0 + w[i-7] + s1; w[i] != want {
				t.Fatalf("%x: word %d is %08x, not %08x", block, i, w[i], want)
			}
		}
	}
}

// Words of the block "abc" with its tail, as FIPS 180-4's examples tell them.
func TestScheduleOfAbc(t *testing.T) {
	var block [64]byte
	copy(block[:], "abc\x80")
	block[63] = 24
	w := Schedule(block)
	for i, want := range map[int]uint32{
		0: 0x61626380, 1: 0, 14: 0, 15: 0x18, 16: 0x61626380, 17: 0x000f0000,
		18: 0x7da86405, 19: 0x600003c6, 63: 0x12b1edeb,
	} {
		if w[i] != want {
			t.Errorf("word %d is %08x, not %08x", i, w[i], want)
		}
	}
}

// bitOf is x's bit at i.
func bitOf(x uint32, i int) uint32 { return x >> i & 1 }

// slowRound is a round told bit by bit.
func slowRound(v [8]uint32, n uint32) [8]uint32 {
	a, e := v[0], v[4]
	var choice, majority uint32
	for i := range 32 {
		chosen := bitOf(v[6], i)
		if bitOf(e, i) == 1 {
			chosen = bitOf(v[5], i)
		}
		choice |= chosen << i
		if bitOf(a, i)+bitOf(v[1], i)+bitOf(v[2], i) >= 2 {
			majority |= 1 << i
		}
	}
	s1 := rightwards(e, 6) ^ rightwards(e, 11) ^ rightwards(e, 25)
	s0 := rightwards(a, 2) ^ rightwards(a, 13) ^ rightwards(a, 22)
	told := v[7] + s1 + choice + n
	return [8]uint32{told + s0 + majority, a, v[1], v[2], v[3] + told, e, v[5], v[6]}
}

func TestRoundGoesByItsRule(t *testing.T) {
	r := draws()
	for range 500 {
		v, n := randomWords(r), r.Uint32()
		if got, want := Round(v, n), slowRound(v, n); got != want {
			t.Fatalf("Round(%08x, %08x) is %08x, not %08x", v, n, got, want)
		}
	}
	high := [8]uint32{}
	for i := range high {
		high[i] = 0xffffffff
	}
	for _, v := range [][8]uint32{{}, high, {0: 1}, {4: 1}, {7: 0xffffffff}} {
		for _, n := range []uint32{0, 1, 0xffffffff} {
			if got, want := Round(v, n), slowRound(v, n); got != want {
				t.Errorf("Round(%08x, %08x) is %08x, not %08x", v, n, got, want)
			}
		}
	}
}

// The first round of "abc", as FIPS 180-4's examples tell it.
func TestRoundOfAbc(t *testing.T) {
	want := [8]uint32{
		0x5d6aebcd, 0x6a09e667, 0xbb67ae85, 0x3c6ef372, 0xfa2a4622, 0x510e527f, 0x9b05688c, 0x1f83d9ab,
	}
	if got := Round(beginning, 0x61626380+constants[0]); got != want {
		t.Errorf("%08x", got)
	}
}

func TestPressIsRoundsAndSums(t *testing.T) {
	r := draws()
	for range 50 {
		v, block := randomWords(r), randomBlock(r)
		want := v
		for i, w := range Schedule(block) {
			want = slowRound(want, w+constants[i])
		}
		for i := range want {
			want[i] += v[i]
		}
		if got := Press(v, block); got != want {
			t.Fatalf("Press(%08x, %x) is %08x, not %08x", v, block, got, want)
		}
	}
}

func TestTailOfEachLength(t *testing.T) {
	lengths := []int{1<<31 - 1, 1 << 31, 1<<32 + 55, 1<<48 - 9, 1<<48 - 8, 1<<48 - 1, 1 << 48}
	for n := range 200 {
		lengths = append(lengths, n)
	}
	for _, n := range lengths {
		b, err := Tail(n)
		if err != nil {
			t.Fatalf("Tail(%d): %v", n, err)
		}
		if len(b) < 9 || len(b) > 72 || (n+len(b))%64 != 0 {
			t.Fatalf("Tail(%d) has %d bytes", n, len(b))
		}
		zeros := b[1 : len(b)-8]
		if b[0] != 0x80 || !bytes.Equal(zeros, make([]byte, len(zeros))) {
			t.Errorf("Tail(%d) is %x", n, b)
		}
		if count := binary.BigEndian.Uint64(b[len(b)-8:]); count != 8*uint64(n) {
			t.Errorf("Tail(%d) tells %d bits", n, count)
		}
	}
}

func TestTailsEdges(t *testing.T) {
	for n, size := range map[int]int{0: 64, 54: 10, 55: 9, 56: 72, 63: 65, 64: 64, 119: 9, 120: 72, 1 << 48: 64} {
		if b, err := Tail(n); err != nil || len(b) != size {
			t.Errorf("Tail(%d) has %d bytes, not %d: %v", n, len(b), size, err)
		}
	}
	b, _ := Tail(64)
	if got := hex.EncodeToString(b); got != "80"+strings.Repeat("00", 55)+"0000000000000200" {
		t.Error(got)
	}
}

func TestTailRefusesWrongLengths(t *testing.T) {
	for _, n := range []int{-1, -64, -1 << 63, 1<<48 + 1, 1<<48 + 64, 1<<63 - 1} {
		b, err := Tail(n)
		if b != nil || err != api.ErrArg {
			t.Errorf("Tail(%d) is %x, %v", n, b, err)
		}
		var spot *api.Spot
		if errors.As(err, &spot) {
			t.Errorf("Tail(%d): the error is at a place", n)
		}
	}
}

func TestSumOfKnownTexts(t *testing.T) {
	for text, want := range map[string]string{
		"":    "e3b0c44298fc1c149afbf4c8996fb92427ae41e4649b934ca495991b7852b855",
		"abc": "ba7816bf8f01cfea414140de5dae2223b00361a396177a9cb410ff61f20015ad",
		"abcdbcdecdefdefgefghfghighijhijkijkljklmklmnlmnomnopnopq": "248d6a61d20638b8e5c026930c3e6039a33ce45964ff2167f6ecedd419db06c1",
		strings.Repeat("a", 1000000):                               "cdc76e5c9914fb9281a1c7e284d73e67f1809a48a497200e046d39ccc7112cd0",
	} {
		if got := hex.EncodeToString(Sum([]byte(text))); got != want {
			t.Errorf("Sum of %d bytes is %s, not %s", len(text), got, want)
		}
	}
}

func TestSumOfEachLength(t *testing.T) {
	r := draws()
	for n := range 300 {
		b := make([]byte, n)
		r.Read(b)
		want := sha256.Sum256(b)
		if got := Sum(b); !bytes.Equal(got, want[:]) {
			t.Fatalf("Sum(%x) is %x, not %x", b, got, want)
		}
	}
}

func TestSumOfNothingTwice(t *testing.T) {
	if !bytes.Equal(Sum(nil), Sum([]byte{})) {
		t.Error("no bytes, as nil and as empty, have two digests")
	}
}

// What lies behind a handed-in slice, within its capacity, is the caller's too.
func TestSumChangesNothing(t *testing.T) {
	r := draws()
	for _, n := range []int{0, 1, 55, 56, 63, 64, 65, 128, 200} {
		whole := make([]byte, n+256)
		r.Read(whole)
		before := bytes.Clone(whole)
		first := Sum(whole[:n])
		if !bytes.Equal(whole, before) {
			t.Errorf("Sum changes what it was given, or what is behind: %d bytes", n)
		}
		for i := range whole {
			whole[i] ^= 0xff
		}
		if want := sha256.Sum256(before[:n]); !bytes.Equal(first, want[:]) {
			t.Errorf("a digest of %d bytes changes with what it was made of", n)
		}
	}
}

func TestAnswersAreNewMemory(t *testing.T) {
	text := []byte("abc")
	want := bytes.Clone(Sum(text))
	clear(Sum(text))
	if !bytes.Equal(Sum(text), want) {
		t.Error("digests share memory")
	}
	for _, n := range []int{0, 55, 64} {
		first, _ := Tail(n)
		want := bytes.Clone(first)
		clear(first)
		if again, _ := Tail(n); !bytes.Equal(again, want) {
			t.Errorf("tails of %d share memory", n)
		}
	}
}

func TestArraysStayAsTheyWere(t *testing.T) {
	r := draws()
	v, block := randomWords(r), randomBlock(r)
	v0, block0 := v, block
	schedule, round, press := Schedule(block), Round(v, 7), Press(v, block)
	if v != v0 || block != block0 {
		t.Error("what was handed in was changed")
	}
	if Schedule(block) != schedule || Round(v, 7) != round || Press(v, block) != press {
		t.Error("asked again, the answer is another one")
	}
}

// goneBack is what a round with n was made of.
func goneBack(v [8]uint32, n uint32) [8]uint32 {
	a, b, c, e, f, g := v[1], v[2], v[3], v[5], v[6], v[7]
	// A round of words whose last is 0 tells all that was added to it.
	rest := Round([8]uint32{a, b, c, 0, e, f, g, 0}, n)
	h := v[0] - rest[0]
	return [8]uint32{a, b, c, v[4] - rest[4] - h, e, f, g, h}
}

func TestRoundCanBeGoneBack(t *testing.T) {
	r := draws()
	for range 500 {
		v, n := randomWords(r), r.Uint32()
		if got := goneBack(Round(v, n), n); got != v {
			t.Fatalf("Round(%08x, %08x) goes back to %08x", v, n, got)
		}
	}
}

func TestUnlikeWordsLeadToUnlikeWords(t *testing.T) {
	r := draws()
	for range 20 {
		v, n := randomWords(r), r.Uint32()
		led := map[[8]uint32]int{Round(v, n): -1}
		for bit := range 256 {
			turned := v
			turned[bit/32] ^= 1 << (bit % 32)
			to := Round(turned, n)
			if other, ok := led[to]; ok {
				t.Fatalf("%08x, %08x: turned at %d and at %d it leads to the same", v, n, bit, other)
			}
			led[to] = bit
		}
	}
}

// digestFrom goes on from the words that some blocks led to, with what is behind them.
func digestFrom(v [8]uint32, behind []byte) []byte {
	for ; len(behind) > 0; behind = behind[64:] {
		v = Press(v, [64]byte(behind))
	}
	digest := make([]byte, 32)
	for i, x := range v {
		binary.BigEndian.PutUint32(digest[4*i:], x)
	}
	return digest
}

func TestDigestHangsOnWordsAndWhatIsBehind(t *testing.T) {
	r := draws()
	for _, n := range []int{0, 1, 55, 56, 64, 65, 119, 120, 128, 300} {
		b := make([]byte, n)
		r.Read(b)
		tail, err := Tail(n)
		if err != nil {
			t.Fatal(err)
		}
		all := append(bytes.Clone(b), tail...)
		v := beginning
		for at := 0; at < len(all); at += 64 {
			if got, want := digestFrom(v, all[at:]), Sum(b); !bytes.Equal(got, want) {
				t.Errorf("%d bytes, from %d on: %x, not %x", n, at, got, want)
			}
			v = Press(v, [64]byte(all[at:]))
		}
	}
}

func BenchmarkPress(b *testing.B) {
	v, block := beginning, [64]byte{}
	for b.Loop() {
		v = Press(v, block)
	}
}
