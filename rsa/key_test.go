package rsa

import (
	"bytes"
	"crypto/sha256"
	"encoding/hex"
	"errors"
	"math/big"
	"math/rand"
	"slices"
	"testing"

	"charter/api"
)

// The tests' own draws: the same at each run.
func draws() *rand.Rand { return rand.New(rand.NewSource(6)) }

func randomBytes(r *rand.Rand, n int) []byte {
	b := make([]byte, n)
	r.Read(b)
	return b
}

// filler is bytes of which none is 00.
func filler(r *rand.Rand, n int) []byte {
	b := make([]byte, n)
	for i := range b {
		b[i] = byte(1 + r.Intn(255))
	}
	return b
}

// bigOf is a number as Go's own.
func bigOf(a api.Nat) *big.Int {
	out := new(big.Int)
	for i := len(a) - 1; i >= 0; i-- {
		out.Lsh(out, 32)
		out.Add(out, new(big.Int).SetUint64(uint64(a[i])))
	}
	return out
}

// natOf is Go's own as a number.
func natOf(b *big.Int) api.Nat {
	out := api.Nat{}
	limb := big.NewInt(1 << 32)
	for rest := new(big.Int).Set(b); rest.Sign() > 0; rest.Rsh(rest, 32) {
		out = append(out, uint32(new(big.Int).Mod(rest, limb).Uint64()))
	}
	return out
}

// power256 is 256 to the power of n, and so much more or less.
func power256(n int, more int64) *big.Int {
	out := new(big.Int).Lsh(big.NewInt(1), uint(8*n))
	return out.Add(out, big.NewInt(more))
}

// padded is the same number, with limbs of 0 at its end.
func padded(a api.Nat, n int) api.Nat { return slices.Concat(a, make(api.Nat, n)) }

// tooLong may not be reckoned with: 65 limbs count.
func tooLong() api.Nat { return append(api.Nat{7}, append(make(api.Nat, 63), 1)...) }

func fromHex(t *testing.T, s string) []byte {
	t.Helper()
	b, err := hex.DecodeString(s)
	if err != nil {
		t.Fatal(err)
	}
	return b
}

// primeOf is a prime of just so many bits; the two highest are 1, so that two of them make twice as many.
func primeOf(r *rand.Rand, bits int) *big.Int {
	for {
		p := new(big.Int).Rand(r, new(big.Int).Lsh(big.NewInt(1), uint(bits-2)))
		p.Add(p, new(big.Int).Lsh(big.NewInt(3), uint(bits-2)))
		p.SetBit(p, 0, 1)
		if p.ProbablyPrime(20) {
			return p
		}
	}
}

// parts are what a key is made of, reckoned with Go's own numbers.
type parts struct{ p, q, e, n, d *big.Int }

func (k parts) secret() api.Secret { return api.Secret{N: natOf(k.n), E: natOf(k.e), D: natOf(k.d)} }

func (k parts) public() api.Public { return api.Public{N: natOf(k.n), E: natOf(k.e)} }

func (k parts) size() int { return (k.n.BitLen() + 7) / 8 }

// partsOf is what comes of two primes and e, if e has what makes 1 of it.
func partsOf(p, q, e *big.Int) (parts, bool) {
	one := big.NewInt(1)
	round := new(big.Int).Mul(new(big.Int).Sub(p, one), new(big.Int).Sub(q, one))
	d := new(big.Int).ModInverse(e, round)
	return parts{p, q, e, new(big.Int).Mul(p, q), d}, d != nil
}

// drawn is a key whose modulus has so many bytes, of which the highest has so many bits of 0 ahead; e of 0: any.
func drawn(r *rand.Rand, size, ahead int, e int64) parts {
	bits := 8*size - ahead
	for {
		p, q := primeOf(r, bits/2), primeOf(r, bits-bits/2)
		exponent := big.NewInt(e)
		if e == 0 {
			exponent.Rand(r, new(big.Int).Mul(p, q))
			exponent.SetBit(exponent, 0, 1)
		}
		if k, found := partsOf(p, q, exponent); found && p.Cmp(q) != 0 && exponent.Cmp(big.NewInt(3)) >= 0 {
			return k
		}
	}
}

// keys are some of each kind: the shortest, the longest, with short and long exponents.
func keys(r *rand.Rand) []parts {
	var out []parts
	for _, size := range []int{62, 63, 64, 65, 90, 127, 128} {
		out = append(out, drawn(r, size, 0, 65537), drawn(r, size, r.Intn(7)+1, 3))
	}
	return append(out, drawn(r, 62, 0, 0), drawn(r, 96, 7, 0), drawn(r, 128, 0, 0))
}

// raisedByGo is what bytes are as a number, so many times multiplied modulo n, in the size's bytes.
func raisedByGo(b []byte, times, n *big.Int) []byte {
	out := new(big.Int).Exp(new(big.Int).SetBytes(b), times, n)
	return out.FillBytes(make([]byte, (n.BitLen()+7)/8))
}

// toSign is what is laid out to be signed.
func toSign(size int, b []byte) []byte {
	digest := sha256.Sum256(b)
	text, _ := hex.DecodeString("3031300d060960864801650304020105000420" + hex.EncodeToString(digest[:]))
	laid := append([]byte{0, 1}, bytes.Repeat([]byte{0xff}, size-3-len(text))...)
	return append(append(laid, 0), text...)
}

// toHide is what is laid out to be hidden.
func toHide(fill, text []byte) []byte {
	return append(append(append([]byte{0, 2}, fill...), 0), text...)
}

// checkError checks that just that error is told, at no place.
func checkError(t *testing.T, call string, err, want error) {
	t.Helper()
	if err != want {
		t.Errorf("%s is %v, not %v", call, err, want)
	}
	var spot *api.Spot
	if errors.As(err, &spot) {
		t.Errorf("%s: the error is at a place", call)
	}
}

func checkBytesRefused(t *testing.T, call string, got []byte, err, want error) {
	t.Helper()
	checkError(t, call, err, want)
	if got != nil {
		t.Errorf("%s tells %x beside an error", call, got)
	}
}

// publicMayBe tells by Go's own numbers whether a public key may be.
func publicMayBe(n, e *big.Int) bool {
	size := (n.BitLen() + 7) / 8
	return n.Bit(0) == 1 && size >= 62 && size <= 128 && e.Bit(0) == 1 && e.Cmp(big.NewInt(3)) >= 0 && e.Cmp(n) < 0
}

// moduli are numbers at the edges of those that may be.
func moduli() []*big.Int {
	out := []*big.Int{big.NewInt(0), big.NewInt(1), big.NewInt(15), power256(256, 1), power256(256, -1), power256(300, 1)}
	for _, size := range []int{1, 2, 31, 32, 60, 61, 62, 63, 64, 100, 127, 128, 129, 130} {
		for more := int64(-3); more <= 3; more++ {
			out = append(out, power256(size, more))
		}
	}
	return out
}

// exponents are numbers at the edges of those that may be with a modulus.
func exponents(n *big.Int) []*big.Int {
	out := []*big.Int{big.NewInt(65537), big.NewInt(65536), power256(4, 0), power256(4, 1), power256(60, 1), power256(256, 1), power256(300, 7)}
	for e := range int64(7) {
		out = append(out, big.NewInt(e))
		if near := new(big.Int).Add(n, big.NewInt(e-3)); near.Sign() >= 0 {
			out = append(out, near)
		}
	}
	return out
}

// P6.1: which public keys may be, at all edges; limbs of 0 at the ends change nothing.
func TestCheck(t *testing.T) {
	held := 0
	for _, n := range moduli() {
		for _, e := range exponents(n) {
			var want error = api.ErrArg
			if publicMayBe(n, e) {
				want = nil
				held++
			}
			for _, zeros := range []int{0, 1, 3, 70} {
				p := api.Public{N: padded(natOf(n), zeros), E: padded(natOf(e), zeros)}
				if err := Check(p); err != want {
					t.Errorf("Check(N %x, E %x) with %d limbs of 0 is %v, not %v", n, e, zeros, err, want)
				}
			}
		}
	}
	if held == 0 {
		t.Error("no key held")
	}
	checkError(t, "Check of nothing", Check(api.Public{}), api.ErrArg)
	checkError(t, "Check(N 15, E 3)", Check(api.Public{N: api.Nat{15}, E: api.Nat{3}}), api.ErrArg)
}

// P6.1: each length, of the least and the greatest odd number.
func TestCheckAtEachSize(t *testing.T) {
	for size := 1; size <= 140; size++ {
		var want error
		if size < api.MinKey || size > api.MaxKey {
			want = api.ErrArg
		}
		for _, n := range []*big.Int{power256(size-1, 1), power256(size, -1)} {
			if err := Check(api.Public{N: natOf(n), E: api.Nat{5}}); err != want {
				t.Errorf("a modulus of %d bytes is %v, not %v", size, err, want)
			}
		}
	}
}

// checkSecret checks a key that was made against Go's numbers, and that none has limbs of 0 at its end.
func checkSecret(t *testing.T, got api.Secret, err error, want parts) {
	t.Helper()
	if err != nil {
		t.Fatalf("Pair(%x, %x, %x): %v", want.p, want.q, want.e, err)
	}
	s := want.secret()
	if !slices.Equal(got.N, s.N) || !slices.Equal(got.E, s.E) || !slices.Equal(got.D, s.D) {
		t.Fatalf("Pair(%x, %x, %x) is %x, not %x", want.p, want.q, want.e, got, s)
	}
}

func checkPairRefused(t *testing.T, p, q, e api.Nat, want error) {
	t.Helper()
	got, err := Pair(p, q, e)
	checkError(t, "Pair", err, want)
	if got.N != nil || got.E != nil || got.D != nil {
		t.Errorf("Pair(%x, %x, %x) tells %x beside an error", bigOf(p), bigOf(q), bigOf(e), got)
	}
}

// P6.1: pairs of primes make what Go reckons, either way round, whatever limbs of 0 stand at their ends.
func TestPair(t *testing.T) {
	for _, k := range keys(draws()) {
		for zeros := range 3 {
			got, err := Pair(padded(natOf(k.p), zeros), padded(natOf(k.q), 2*zeros), padded(natOf(k.e), 80*zeros))
			checkSecret(t, got, err, k)
			got, err = Pair(padded(natOf(k.q), 80*zeros), natOf(k.p), natOf(k.e))
			checkSecret(t, got, err, k)
		}
		if err := Check(k.public()); err != nil {
			t.Errorf("Check of a pair's key: %v", err)
		}
	}
}

// expectedOfPair tells by Go's numbers what Pair has to answer.
func expectedOfPair(p, q, e *big.Int) (parts, error) {
	for _, a := range []*big.Int{p, q, e} {
		if a.BitLen() > 2048 {
			return parts{}, api.ErrLong
		}
	}
	for _, a := range []*big.Int{p, q} {
		if a.Cmp(big.NewInt(3)) < 0 || a.BitLen() > 512 {
			return parts{}, api.ErrArg
		}
	}
	k, found := partsOf(p, q, e)
	if !found {
		return parts{}, api.ErrNone
	}
	if !publicMayBe(k.n, k.e) {
		return parts{}, api.ErrArg
	}
	return k, nil
}

func checkPair(t *testing.T, p, q, e *big.Int) error {
	t.Helper()
	k, want := expectedOfPair(p, q, e)
	if want != nil {
		checkPairRefused(t, natOf(p), natOf(q), natOf(e), want)
		return want
	}
	got, err := Pair(natOf(p), natOf(q), natOf(e))
	checkSecret(t, got, err, k)
	return nil
}

// factors are numbers at the edges of those that may be factors, primes or not.
func factors(r *rand.Rand) []*big.Int {
	out := []*big.Int{power256(30, 1), power256(31, 15), power256(40, 4), power256(63, -1), power256(256, -1), power256(256, 0), power256(256, 1), power256(400, 1), primeOf(r, 248), primeOf(r, 250), primeOf(r, 500), primeOf(r, 512)}
	for more := range int64(6) {
		out = append(out, big.NewInt(more), power256(64, more-3), power256(30, more), power256(31, more))
	}
	return out
}

// P6.1: whatever two numbers and an exponent are, primes or not; each of the errors comes up, in their order.
func TestPairOfAnyNumbers(t *testing.T) {
	r := draws()
	counts := map[error]int{}
	two := factors(r)
	for _, p := range two {
		for _, q := range two {
			n := new(big.Int).Mul(p, q)
			for _, e := range []*big.Int{big.NewInt(0), big.NewInt(1), big.NewInt(2), big.NewInt(3), big.NewInt(5), big.NewInt(65537), n, power256(256, -1), power256(256, 0), new(big.Int).Rand(r, power256(128, 0))} {
				counts[checkPair(t, p, q, e)]++
			}
		}
	}
	for _, want := range []error{nil, api.ErrLong, api.ErrArg, api.ErrNone} {
		if counts[want] < 20 {
			t.Errorf("%v came up %d times", want, counts[want])
		}
	}
}

// P6.1, R1: a number that may not be reckoned with is told first, wherever it stands.
func TestPairOfLongNumbers(t *testing.T) {
	k := drawn(draws(), 62, 0, 65537)
	p, q, e := natOf(k.p), natOf(k.q), natOf(k.e)
	for _, other := range []api.Nat{nil, {2}, p} {
		checkPairRefused(t, tooLong(), other, e, api.ErrLong)
		checkPairRefused(t, other, tooLong(), e, api.ErrLong)
		checkPairRefused(t, other, other, tooLong(), api.ErrLong)
		checkPairRefused(t, other, padded(tooLong(), 5), nil, api.ErrLong)
	}
	checkPairRefused(t, tooLong(), tooLong(), tooLong(), api.ErrLong)
	// As long as may be reckoned with: p and q have too many bytes, and e isn't below N.
	longest := natOf(power256(256, -1))
	checkPairRefused(t, longest, q, e, api.ErrArg)
	checkPairRefused(t, p, longest, e, api.ErrArg)
	checkPair(t, k.p, k.q, power256(256, -1))
}

// P6.1: an exponent above (p - 1)(q - 1) and below N is told as it is; N itself, and what is above, may not be.
func TestPairOfLongExponents(t *testing.T) {
	r := draws()
	k := drawn(r, 62, 0, 3)
	counts := map[error]int{}
	for e := new(big.Int).Sub(k.n, big.NewInt(100)); e.Cmp(new(big.Int).Add(k.n, big.NewInt(100))) < 0; e.Add(e, big.NewInt(1)) {
		counts[checkPair(t, k.p, k.q, e)]++
	}
	if counts[nil] == 0 || counts[api.ErrArg] == 0 || counts[api.ErrNone] == 0 {
		t.Errorf("exponents about N are %v", counts)
	}
}

// P6.1: factors below 3, whichever of both, ahead of whether there is such a number.
func TestPairOfSmallFactors(t *testing.T) {
	p := natOf(primeOf(draws(), 500))
	for small := range uint32(3) {
		for _, e := range []api.Nat{nil, {2}, {3}, {65537}} {
			checkPairRefused(t, api.Nat{small}, p, e, api.ErrArg)
			checkPairRefused(t, p, api.Nat{small, 0, 0}, e, api.ErrArg)
		}
	}
	checkPairRefused(t, api.Nat{2}, api.Nat{7}, api.Nat{3}, api.ErrArg)
	// 3 and 7 may be factors: (3 - 1)(7 - 1) is 12.
	checkPairRefused(t, api.Nat{3}, api.Nat{7}, api.Nat{3}, api.ErrNone)
	checkPairRefused(t, api.Nat{3}, api.Nat{7}, api.Nat{5}, api.ErrArg)
}

// P6.1: what comes of it has to be a key: of 62 to 128 bytes, N and E odd, E 3 at least.
func TestPairOfWhatMayNotBe(t *testing.T) {
	r := draws()
	// 61 bytes by a bit, and 62.
	checkPair(t, primeOf(r, 244), primeOf(r, 244), big.NewInt(65537))
	checkPairRefused(t, natOf(primeOf(r, 244)), natOf(primeOf(r, 244)), api.Nat{1}, api.ErrArg)
	p, q := primeOf(r, 250), primeOf(r, 250)
	checkPairRefused(t, natOf(p), natOf(q), api.Nat{1}, api.ErrArg)
	checkPairRefused(t, natOf(p), natOf(q), nil, api.ErrNone)
	checkPairRefused(t, natOf(p), natOf(q), api.Nat{4}, api.ErrNone)
	// Of two even factors (p - 1)(q - 1) is odd, and has what makes 1 of 2: then N is even, and E is.
	even := new(big.Int).Lsh(p, 1)
	for _, e := range []int64{2, 4, 8} {
		if err := checkPair(t, even, even, big.NewInt(e)); err != api.ErrArg {
			t.Errorf("even factors with %d are %v", e, err)
		}
	}
	// A factor twice, and factors that aren't primes, may be.
	if err := checkPair(t, p, p, big.NewInt(65537)); err != nil {
		t.Errorf("one factor twice: %v", err)
	}
	if err := checkPair(t, power256(31, 15), power256(63, -1), big.NewInt(65537)); err != nil {
		t.Errorf("factors that aren't primes: %v", err)
	}
}
