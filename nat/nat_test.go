package nat

import (
	"bytes"
	"errors"
	"math/big"
	"math/rand"
	"slices"
	"testing"

	"charter/api"
)

// The tests' own draws: the same at each run.
func draws() *rand.Rand { return rand.New(rand.NewSource(5)) }

// bigOf is a number as Go's own.
func bigOf(a api.Nat) *big.Int {
	out := new(big.Int)
	for i := len(a) - 1; i >= 0; i-- {
		out.Lsh(out, 32)
		out.Add(out, new(big.Int).SetUint64(uint64(a[i])))
	}
	return out
}

// natOf is Go's own as a number.
func natOf(b *big.Int) api.Nat {
	out := api.Nat{}
	limb := big.NewInt(1 << 32)
	for rest := new(big.Int).Set(b); rest.Sign() > 0; rest.Rsh(rest, 32) {
		out = append(out, uint32(new(big.Int).Mod(rest, limb).Uint64()))
	}
	return out
}

func natOfText(t *testing.T, hex string) api.Nat {
	t.Helper()
	b, ok := new(big.Int).SetString(hex, 16)
	if !ok {
		t.Fatalf("%q is no number", hex)
	}
	return natOf(b)
}

// randomNat is a number of just so many limbs; some have limbs of all bits or none, where carries go far.
func randomNat(r *rand.Rand, limbs int) api.Nat {
	a := make(api.Nat, limbs)
	kind := r.Intn(3)
	for i := range a {
		switch {
		case kind == 0 || r.Intn(4) == 0:
			a[i] = r.Uint32()
		case r.Intn(2) == 0:
			a[i] = 1<<32 - 1
		}
	}
	if limbs > 0 && a[limbs-1] == 0 {
		a[limbs-1] = 1 << r.Intn(32)
	}
	return a
}

// randomNats are numbers of 0 to 64 limbs, the longest and the shortest often.
func randomNats(r *rand.Rand, n int) []api.Nat {
	out := make([]api.Nat, n)
	for i := range out {
		switch r.Intn(4) {
		case 0:
			out[i] = randomNat(r, r.Intn(4))
		case 1:
			out[i] = randomNat(r, api.MaxLimbs-r.Intn(3))
		default:
			out[i] = randomNat(r, r.Intn(api.MaxLimbs+1))
		}
	}
	return out
}

// padded is the same number, with limbs of 0 at its end.
func padded(a api.Nat, n int) api.Nat { return slices.Concat(a, make(api.Nat, n)) }

// tooLong may not be reckoned with: 65 limbs count.
func tooLong() api.Nat { return append(make(api.Nat, api.MaxLimbs), 1) }

// longest is the greatest that may be reckoned with.
func longest() api.Nat {
	a := make(api.Nat, api.MaxLimbs)
	for i := range a {
		a[i] = 1<<32 - 1
	}
	return a
}

// checkNat checks what was told, and that it is told without limbs of 0 at its end.
func checkNat(t *testing.T, call string, got api.Nat, err error, want *big.Int) {
	t.Helper()
	if err != nil {
		t.Fatalf("%s: %v", call, err)
	}
	if bigOf(got).Cmp(want) != 0 {
		t.Fatalf("%s is %x, not %x", call, bigOf(got), want)
	}
	if len(got) > 0 && got[len(got)-1] == 0 {
		t.Fatalf("%s has a limb of 0 at its end", call)
	}
}

func checkRefused(t *testing.T, call string, got api.Nat, err, want error) {
	t.Helper()
	if got != nil || err != want {
		t.Errorf("%s is %v, %v, not %v", call, got, err, want)
	}
	var spot *api.Spot
	if errors.As(err, &spot) {
		t.Errorf("%s: the error is at a place", call)
	}
}

func checkBytesRefused(t *testing.T, call string, got []byte, err, want error) {
	t.Helper()
	if got != nil || err != want {
		t.Errorf("%s is %x, %v, not %v", call, got, err, want)
	}
}

// P5.1: the highest byte first, at each length.
func TestReadAtEachLength(t *testing.T) {
	r := draws()
	for n := range 257 {
		b := make([]byte, n)
		r.Read(b)
		got, err := Read(b)
		checkNat(t, "Read", got, err, new(big.Int).SetBytes(b))
	}
	got, err := Read([]byte{1, 2, 3, 4, 5})
	if err != nil || !slices.Equal(got, api.Nat{0x02030405, 1}) {
		t.Errorf("01 02 03 04 05 is %x, %v", got, err)
	}
}

// P5.1: bytes 00 ahead don't count, however many; a byte above 256 does.
func TestReadOfBytesAhead(t *testing.T) {
	whole := bytes.Repeat([]byte{0xfe}, 256)
	for _, n := range []int{0, 1, 3, 4, 255, 256, 257, 5000} {
		ahead := make([]byte, n)
		for _, b := range [][]byte{{}, {1}, {1, 0}, {7, 0, 0, 0, 0}, whole} {
			got, err := Read(slices.Concat(ahead, b))
			checkNat(t, "Read", got, err, new(big.Int).SetBytes(b))
		}
		for _, b := range [][]byte{append([]byte{1}, whole...), append([]byte{1}, make([]byte, 256)...), bytes.Repeat([]byte{1}, 4000)} {
			got, err := Read(slices.Concat(ahead, b))
			checkRefused(t, "Read above 256 bytes", got, err, api.ErrLong)
		}
	}
	got, err := Read(nil)
	checkNat(t, "Read(nil)", got, err, new(big.Int))
}

// P5.1: a number in just so many bytes.
func TestWriteAtEachSize(t *testing.T) {
	r := draws()
	for size := range 257 {
		b := make([]byte, size)
		r.Read(b)
		for ahead := range size + 1 {
			if ahead > 6 && ahead < size-6 {
				continue
			}
			clear(b[:ahead])
			a := natOf(new(big.Int).SetBytes(b))
			for _, handed := range []api.Nat{a, padded(a, 1), padded(a, 70)} {
				got, err := Write(handed, size)
				if err != nil || !bytes.Equal(got, b) {
					t.Fatalf("%d bytes, %d of them 00 ahead: %x, %v, not %x", size, ahead, got, err, b)
				}
			}
		}
	}
}

// P5.1: what doesn't fit, at the edge of each byte, and sizes that may not be.
func TestWriteWhereItDoesNotFit(t *testing.T) {
	for n := range 256 {
		a := natOf(new(big.Int).Lsh(big.NewInt(1), uint(8*n)))
		got, err := Write(a, n)
		checkBytesRefused(t, "Write of what needs a byte more", got, err, api.ErrArg)
		if got, err = Write(a, n+1); err != nil || len(got) != n+1 || got[0] != 1 {
			t.Errorf("256 to the power of %d in %d bytes is %x, %v", n, n+1, got, err)
		}
		below := natOf(new(big.Int).Sub(new(big.Int).Lsh(big.NewInt(1), uint(8*n)), big.NewInt(1)))
		if got, err = Write(below, n); err != nil || !bytes.Equal(got, bytes.Repeat([]byte{255}, n)) {
			t.Errorf("one below 256 to the power of %d in %d bytes is %x, %v", n, n, got, err)
		}
	}
	for _, size := range []int{-1, 257, 258, 1 << 40, -1 << 63, 1<<63 - 1} {
		for _, a := range []api.Nat{nil, {5}, longest()} {
			got, err := Write(a, size)
			checkBytesRefused(t, "Write of a size that may not be", got, err, api.ErrArg)
		}
	}
	if got, err := Write(nil, 0); err != nil || len(got) != 0 {
		t.Errorf("0 in no bytes is %x, %v", got, err)
	}
}

// P5.1, R1: that it may not be reckoned with is told first.
func TestWriteOfLong(t *testing.T) {
	for _, size := range []int{-1, 0, 1, 256, 257, 260} {
		for _, a := range []api.Nat{tooLong(), padded(tooLong(), 9), append(longest(), 0, 1), make(api.Nat, 1000)[:999:1000]} {
			if len(a) == 999 {
				a[998] = 3
			}
			got, err := Write(a, size)
			checkBytesRefused(t, "Write of 65 limbs", got, err, api.ErrLong)
		}
	}
}

// P5.1: of any numbers, long ones and such with limbs of 0 at their ends, too.
func TestCmp(t *testing.T) {
	r := draws()
	for range 3000 {
		a := randomNat(r, r.Intn(100))
		b := randomNat(r, r.Intn(100))
		switch r.Intn(3) {
		case 0:
			b = slices.Clone(a)
		case 1:
			b = slices.Clone(a)
			if len(b) > 0 {
				b[r.Intn(len(b))] ^= 1 << r.Intn(32)
			}
		}
		want := bigOf(a).Cmp(bigOf(b))
		if got := Cmp(a, b); got != want {
			t.Fatalf("Cmp(%x, %x) is %d, not %d", bigOf(a), bigOf(b), got, want)
		}
		if got := Cmp(padded(a, r.Intn(80)), padded(b, r.Intn(80))); got != want {
			t.Fatalf("with limbs of 0 at their ends, Cmp(%x, %x) is %d, not %d", bigOf(a), bigOf(b), got, want)
		}
	}
	if Cmp(nil, nil) != 0 || Cmp(nil, api.Nat{0, 0}) != 0 || Cmp(nil, api.Nat{1}) != -1 || Cmp(api.Nat{1}, nil) != 1 {
		t.Error("0 isn't compared so")
	}
	if Cmp(api.Nat{1<<32 - 1}, api.Nat{0, 1}) != -1 || Cmp(api.Nat{1 << 31}, api.Nat{1<<31 - 1}) != 1 {
		t.Error("limbs aren't compared without a sign")
	}
	if Cmp(longest(), tooLong()) != -1 || Cmp(append(longest(), 1), tooLong()) != 1 {
		t.Error("long numbers aren't compared so")
	}
}

// P5.2: sums and products, with limbs of 0 at the ends of what is handed in, and more limbs than that in what is told.
func TestAddAndMul(t *testing.T) {
	r := draws()
	for range 3000 {
		two := randomNats(r, 2)
		a, b := two[0], two[1]
		got, err := Add(padded(a, r.Intn(3)), padded(b, r.Intn(3)))
		checkNat(t, "Add", got, err, new(big.Int).Add(bigOf(a), bigOf(b)))
		got, err = Mul(padded(a, r.Intn(3)), padded(b, r.Intn(3)))
		checkNat(t, "Mul", got, err, new(big.Int).Mul(bigOf(a), bigOf(b)))
	}
	got, err := Add(longest(), api.Nat{1})
	if err != nil || !slices.Equal(got, tooLong()) {
		t.Errorf("the longest and 1 is %x, %v", got, err)
	}
	got, err = Mul(longest(), longest())
	checkNat(t, "the longest by itself", got, err, new(big.Int).Mul(bigOf(longest()), bigOf(longest())))
	if len(got) != 2*api.MaxLimbs {
		t.Errorf("the longest by itself has %d limbs", len(got))
	}
}

// P5.2: differences, and where a is below b.
func TestSub(t *testing.T) {
	r := draws()
	for range 3000 {
		two := randomNats(r, 2)
		a, b := two[0], two[1]
		switch r.Intn(4) {
		case 0:
			b = slices.Clone(a)
		case 1:
			b = slices.Clone(a)
			if len(b) > 0 {
				b[r.Intn(len(b))] ^= 1 << r.Intn(32)
			}
		}
		got, err := Sub(padded(a, r.Intn(3)), padded(b, r.Intn(3)))
		want := new(big.Int).Sub(bigOf(a), bigOf(b))
		if want.Sign() < 0 {
			checkRefused(t, "Sub", got, err, api.ErrArg)
		} else {
			checkNat(t, "Sub", got, err, want)
		}
	}
	got, err := Sub(api.Nat{1}, api.Nat{2})
	checkRefused(t, "Sub(1, 2)", got, err, api.ErrArg)
	got, err = Sub(nil, api.Nat{1})
	checkRefused(t, "Sub(0, 1)", got, err, api.ErrArg)
	got, err = Sub(append(make(api.Nat, 63), 1), api.Nat{1})
	checkNat(t, "a difference that borrows all along", got, err, new(big.Int).Sub(new(big.Int).Lsh(big.NewInt(1), 63*32), big.NewInt(1)))
}

func checkDiv(t *testing.T, a, b, handedA, handedB api.Nat) {
	t.Helper()
	times, left, err := Div(handedA, handedB)
	wantTimes, wantLeft := new(big.Int).QuoRem(bigOf(a), bigOf(b), new(big.Int))
	checkNat(t, "how often", times, err, wantTimes)
	checkNat(t, "what is left", left, err, wantLeft)
}

// P5.3: quotients, and what is left.
func TestDiv(t *testing.T) {
	r := draws()
	for range 20000 {
		two := randomNats(r, 2)
		a, b := two[0], two[1]
		if len(b) == 0 {
			b = api.Nat{r.Uint32() | 1}
		}
		if r.Intn(4) == 0 && len(b) > 0 {
			// A multiple, and what is next to it.
			n := r.Intn(api.MaxLimbs - len(b) + 1)
			whole := new(big.Int).Mul(bigOf(b), bigOf(randomNat(r, n)))
			whole.Add(whole, big.NewInt(int64(r.Intn(3)-1)))
			if whole.Sign() < 0 {
				whole.SetInt64(0)
			}
			a = natOf(whole)
		}
		checkDiv(t, a, b, padded(a, r.Intn(3)), padded(b, r.Intn(3)))
	}
	checkDiv(t, longest(), longest(), longest(), longest())
	checkDiv(t, longest(), api.Nat{1}, longest(), api.Nat{1})
	checkDiv(t, nil, longest(), nil, longest())
}

// P5.3: where the guess of how often is one too high, or begins two too high.
func TestDivWhereTheGuessIsHigh(t *testing.T) {
	for _, two := range [][2]api.Nat{
		{{0, 0, 0x8000, 0x7fff}, {1, 0, 0x8000}},
		{{3, 0, 0x80000000}, {1, 0, 0x20000000}},
		{{3, 0, 0x8000}, {1, 0, 0x2000}},
		{{0, 0, 0x80000000, 0x7fffffff}, {1, 0, 0x80000000}},
		{{0, 0xfffffffe, 0x80000000}, {0xffffffff, 0x80000000}},
		{{0, 0xfffffffe, 0x80000000}, {0xffff, 0x80000000}},
		{{0, 0, 0xffffffff, 0x7fffffff}, {0xffffffff, 0xffffffff, 0x7fffffff}},
		{{0xffffffff, 0xffffffff, 0xfffffffe}, {0xffffffff, 0xffffffff}},
		{{0, 0, 0x80000000}, {0xffffffff, 0x80000000}},
		{{0, 0, 0, 0x80000000}, {0xffffffff, 0, 0x80000000}},
	} {
		checkDiv(t, two[0], two[1], two[0], two[1])
	}
	// All of few limbs out of those at which carries and guesses turn.
	edges := []uint32{0, 1, 2, 1<<31 - 1, 1 << 31, 1<<31 + 1, 1<<32 - 2, 1<<32 - 1}
	for _, a0 := range edges {
		for _, a1 := range edges {
			for _, a2 := range edges {
				for _, b0 := range edges {
					for _, b1 := range edges {
						a, b := api.Nat{b1, a0, a1, a2}, api.Nat{b0, b1, 1 << 31}
						checkDiv(t, a, b, a, b)
						if b0|b1 != 0 {
							a, b = api.Nat{a0, a1, a2}, api.Nat{b0, b1}
							checkDiv(t, a, b, a, b)
						}
					}
				}
			}
		}
	}
}

// P5.3: nothing is divided by 0.
func TestDivByNothing(t *testing.T) {
	for _, b := range []api.Nat{nil, {}, {0}, make(api.Nat, 100)} {
		for _, a := range []api.Nat{nil, {1}, longest()} {
			times, left, err := Div(a, b)
			checkRefused(t, "Div by 0", times, err, api.ErrArg)
			checkRefused(t, "Div by 0", left, err, api.ErrArg)
		}
	}
}

// P5.3: powers, modulo odd and even numbers of each length.
func TestExp(t *testing.T) {
	r := draws()
	for i := range 600 {
		longestOf := 12
		if i%50 == 0 {
			longestOf = api.MaxLimbs
		}
		a, e := randomNat(r, r.Intn(longestOf+1)), randomNat(r, r.Intn(longestOf+1))
		m := randomNat(r, 1+r.Intn(longestOf))
		got, err := Exp(padded(a, r.Intn(3)), padded(e, r.Intn(3)), padded(m, r.Intn(3)))
		checkNat(t, "Exp", got, err, new(big.Int).Exp(bigOf(a), bigOf(e), bigOf(m)))
	}
	got, err := Exp(longest(), longest(), longest())
	checkNat(t, "Exp of the longest", got, err, new(big.Int))
	m := longest()
	m[0], m[63] = 0x12345678, 1
	got, err = Exp(longest(), longest(), m)
	checkNat(t, "Exp of the longest by an even one", got, err, new(big.Int).Exp(bigOf(longest()), bigOf(longest()), bigOf(m)))
}

// P5.3: all small ones.
func TestSmallExpAndInv(t *testing.T) {
	for m := uint64(1); m < 24; m++ {
		for a := range uint64(30) {
			left := 1 % m
			for e := range uint32(12) {
				got, err := Exp(api.Nat{uint32(a)}, api.Nat{e}, api.Nat{uint32(m)})
				checkNat(t, "Exp", got, err, new(big.Int).SetUint64(left))
				left = left * a % m
			}
			checkSmallInv(t, a, m)
		}
	}
}

func checkSmallInv(t *testing.T, a, m uint64) {
	t.Helper()
	got, err := Inv(api.Nat{uint32(a)}, api.Nat{uint32(m)})
	if m < 2 {
		checkRefused(t, "Inv", got, err, api.ErrArg)
		return
	}
	for b := range m {
		if a*b%m == 1 {
			checkNat(t, "Inv", got, err, new(big.Int).SetUint64(b))
			return
		}
	}
	checkRefused(t, "Inv", got, err, api.ErrNone)
}

// P5.3: of e 0 it is what is left of 1, of 0 and by 1 too; by 0 nothing is told.
func TestExpAtItsEdges(t *testing.T) {
	for _, a := range []api.Nat{nil, {0, 0}, {1}, {7}, longest()} {
		for _, e := range []api.Nat{nil, {0}, make(api.Nat, 70)} {
			got, err := Exp(a, e, api.Nat{7, 0})
			checkNat(t, "Exp of e 0", got, err, big.NewInt(1))
			got, err = Exp(a, e, longest())
			checkNat(t, "Exp of e 0", got, err, big.NewInt(1))
			got, err = Exp(a, e, api.Nat{1})
			checkNat(t, "Exp of e 0 by 1", got, err, new(big.Int))
		}
		got, err := Exp(a, api.Nat{5}, api.Nat{1, 0, 0})
		checkNat(t, "Exp by 1", got, err, new(big.Int))
		for _, m := range []api.Nat{nil, {}, {0}, make(api.Nat, 100)} {
			for _, e := range []api.Nat{nil, {1}, longest()} {
				got, err := Exp(a, e, m)
				checkRefused(t, "Exp by 0", got, err, api.ErrArg)
			}
		}
	}
	for _, e := range []api.Nat{{1}, {2}, longest()} {
		got, err := Exp(nil, e, api.Nat{9})
		checkNat(t, "Exp of 0", got, err, new(big.Int))
	}
}

// P5.3: the one below m, where there is one.
func TestInv(t *testing.T) {
	r := draws()
	found := 0
	for i := range 2000 {
		two := randomNats(r, 2)
		a, m := two[0], two[1]
		if i%3 == 0 {
			a, m = randomNat(r, r.Intn(4)), randomNat(r, 1+r.Intn(3))
		}
		if bigOf(m).Cmp(big.NewInt(2)) < 0 {
			continue
		}
		got, err := Inv(padded(a, r.Intn(3)), padded(m, r.Intn(3)))
		want := new(big.Int).ModInverse(bigOf(a), bigOf(m))
		if want == nil {
			checkRefused(t, "Inv", got, err, api.ErrNone)
			continue
		}
		found++
		checkNat(t, "Inv", got, err, want)
	}
	if found < 500 {
		t.Errorf("only %d were found", found)
	}
}

// P5.3: m below 2, and numbers of which nothing makes 1.
func TestInvWhereThereIsNone(t *testing.T) {
	for _, m := range []api.Nat{nil, {}, {0}, {1}, {1, 0, 0}, make(api.Nat, 100)} {
		for _, a := range []api.Nat{nil, {1}, {2}, longest()} {
			got, err := Inv(a, m)
			checkRefused(t, "Inv by what is below 2", got, err, api.ErrArg)
		}
	}
	for _, two := range [][2]api.Nat{{nil, {2}}, {{2}, {4}}, {{4}, {2}}, {{6}, {9}}, {nil, longest()}, {longest(), longest()}, {{3}, longest()}, {{0, 1}, {0, 2}}} {
		got, err := Inv(two[0], two[1])
		checkRefused(t, "Inv", got, err, api.ErrNone)
	}
	got, err := Inv(api.Nat{1}, api.Nat{2})
	checkNat(t, "Inv(1, 2)", got, err, big.NewInt(1))
	last := new(big.Int).Sub(bigOf(longest()), big.NewInt(1))
	got, err = Inv(natOf(last), longest())
	checkNat(t, "Inv of the last one", got, err, last)
	got, err = Inv(api.Nat{2}, longest())
	checkNat(t, "Inv(2, the longest)", got, err, new(big.Int).Lsh(big.NewInt(1), 64*32-1))
}

// P5.2, R1: that one may not be reckoned with is told first, whichever it is; limbs of 0 at its end don't make it so.
func TestLongOnesAreRefused(t *testing.T) {
	fits := []api.Nat{nil, {1}, {2}, longest(), padded(longest(), 5)}
	for _, long := range []api.Nat{tooLong(), padded(tooLong(), 4), append(longest(), 1), append(make(api.Nat, 2000), 1)} {
		for _, b := range append(fits, long) {
			checkBothRefused(t, long, b)
			checkBothRefused(t, b, long)
			for _, c := range fits {
				for _, three := range [][3]api.Nat{{long, b, c}, {b, long, c}, {b, c, long}} {
					got, err := Exp(three[0], three[1], three[2])
					checkRefused(t, "Exp", got, err, api.ErrLong)
				}
			}
		}
	}
	for _, b := range fits {
		if _, err := Add(padded(longest(), 70), b); err != nil {
			t.Errorf("64 limbs that count are refused: %v", err)
		}
		if _, err := Mul(b, padded(longest(), 70)); err != nil {
			t.Errorf("64 limbs that count are refused: %v", err)
		}
		if _, err := Exp(b, b, padded(api.Nat{5}, 70)); err != nil {
			t.Errorf("1 limb that counts is refused: %v", err)
		}
	}
}

func checkBothRefused(t *testing.T, a, b api.Nat) {
	t.Helper()
	for i, call := range []func(a, b api.Nat) (api.Nat, error){Add, Sub, Mul, Inv} {
		got, err := call(a, b)
		checkRefused(t, []string{"Add", "Sub", "Mul", "Inv"}[i], got, err, api.ErrLong)
	}
	times, left, err := Div(a, b)
	checkRefused(t, "Div", times, err, api.ErrLong)
	checkRefused(t, "Div", left, err, api.ErrLong)
}

// The chapter's examples.
func TestExamples(t *testing.T) {
	times, left, err := Div(api.Nat{1000}, api.Nat{7})
	checkNat(t, "how often 7 is in 1000", times, err, big.NewInt(142))
	checkNat(t, "what is left of 1000 by 7", left, err, big.NewInt(6))
	got, err := Exp(api.Nat{3}, api.Nat{5}, api.Nat{7})
	checkNat(t, "Exp(3, 5, 7)", got, err, big.NewInt(5))
	got, err = Inv(api.Nat{3}, api.Nat{7})
	checkNat(t, "Inv(3, 7)", got, err, big.NewInt(5))
	got, err = Inv(api.Nat{2}, api.Nat{4})
	checkRefused(t, "Inv(2, 4)", got, err, api.ErrNone)
	got, err = Sub(api.Nat{1}, api.Nat{2})
	checkRefused(t, "Sub(1, 2)", got, err, api.ErrArg)
	b, err := Write(api.Nat{256}, 1)
	checkBytesRefused(t, "Write(256, 1)", b, err, api.ErrArg)
}

// A power that others reckoned: RFC 3526's group of 1536 bits has a prime p, of which (p - 1) / 2 is one, too.
func TestExpByAPrime(t *testing.T) {
	p := natOfText(t, "FFFFFFFFFFFFFFFFC90FDAA22168C234C4C6628B80DC1CD129024E088A67CC74020BBEA63B139B22514A08798E3404DDEF9519B3CD3A431B302B0A6DF25F14374FE1356D6D51C245E485B576625E7EC6F44C42E9A637ED6B0BFF5CB6F406B7EDEE386BFB5A899FA5AE9F24117C4B1FE649286651ECE45B3DC2007CB8A163BF0598DA48361C55D39A69163FA8FD24CF5F83655D23DCA3AD961C62F356208552BB9ED529077096966D670C354E4ABC9804F1746C08CA237327FFFFFFFFFFFFFFFF")
	less, err := Sub(p, api.Nat{1})
	if err != nil {
		t.Fatal(err)
	}
	half, _, err := Div(less, api.Nat{2})
	if err != nil {
		t.Fatal(err)
	}
	for _, a := range []api.Nat{{2}, {3}, {65537}} {
		got, err := Exp(a, less, p)
		checkNat(t, "a, p less 1 times multiplied", got, err, big.NewInt(1))
		inverse, err := Inv(a, p)
		if err != nil {
			t.Fatal(err)
		}
		lessTwo, err := Sub(less, api.Nat{1})
		if err != nil {
			t.Fatal(err)
		}
		got, err = Exp(a, lessTwo, p)
		checkNat(t, "a, p less 2 times multiplied", got, err, bigOf(inverse))
	}
	// 2 is a square modulo p, as p is 7 modulo 8.
	got, err := Exp(api.Nat{2}, half, p)
	checkNat(t, "2, half of p less 1 times multiplied", got, err, big.NewInt(1))
}

// P5.5: sums and products go either way round, and products over sums.
func TestSumsAndProductsGoEitherWay(t *testing.T) {
	r := draws()
	for range 500 {
		three := []api.Nat{randomNat(r, r.Intn(32)), randomNat(r, r.Intn(32)), randomNat(r, r.Intn(32))}
		a, b, c := three[0], three[1], three[2]
		if !slices.Equal(must(Add(a, b)), must(Add(b, a))) || !slices.Equal(must(Mul(a, b)), must(Mul(b, a))) {
			t.Fatalf("%x and %x don't go either way round", a, b)
		}
		if !slices.Equal(must(Mul(a, must(Add(b, c)))), must(Add(must(Mul(a, b)), must(Mul(a, c))))) {
			t.Fatalf("a product of %x doesn't go over the sum of %x and %x", a, b, c)
		}
		if !slices.Equal(must(Sub(must(Add(a, b)), b)), a) {
			t.Fatalf("%x isn't the sum less %x", a, b)
		}
	}
}

func must(a api.Nat, err error) api.Nat {
	if err != nil {
		panic(err)
	}
	return a
}

// P5.5: a quotient, times what it was by, and what is left, is the whole; what is left is below that.
func TestQuotientTimesIsTheWhole(t *testing.T) {
	r := draws()
	for range 2000 {
		two := randomNats(r, 2)
		a, b := two[0], two[1]
		if len(b) == 0 {
			continue
		}
		times, left, err := Div(a, b)
		if err != nil {
			t.Fatal(err)
		}
		if !slices.Equal(must(Add(must(Mul(times, b)), left)), a) || Cmp(left, b) != -1 {
			t.Fatalf("%x by %x is %x, and %x is left", a, b, times, left)
		}
	}
}

// P5.5: powers of one number multiply to that of both exponents' sum.
func TestPowersMultiply(t *testing.T) {
	r := draws()
	for range 100 {
		m := randomNat(r, 1+r.Intn(10))
		a, d, e := randomNat(r, r.Intn(10)), randomNat(r, r.Intn(6)), randomNat(r, r.Intn(6))
		both := must(Mul(must(Exp(a, d, m)), must(Exp(a, e, m))))
		_, left, err := Div(both, m)
		if err != nil || !slices.Equal(left, must(Exp(a, must(Add(d, e)), m))) {
			t.Fatalf("powers of %x to %x and %x, modulo %x, don't multiply", a, d, e, m)
		}
	}
}

// reading is what a call told, and the lists in it.
type reading struct {
	call  string
	lists []api.Nat
}

// readings calls all with one list each, whose memory goes on behind its end.
func readings(a, b, m api.Nat) []reading {
	times, left, _ := Div(a, b)
	out := []reading{{"Div", []api.Nat{times, left}}}
	for _, call := range []struct {
		name string
		told api.Nat
	}{{"Add", must(Add(a, b))}, {"Add to 0", must(Add(a, nil))}, {"Add 0", must(Add(nil, a))}, {"Sub 0", must(Sub(a, nil))}, {"Sub", must(Sub(a, b))}, {"Mul by 1", must(Mul(a, api.Nat{1}))}, {"Exp", must(Exp(b, api.Nat{1}, a))}, {"Exp of m", must(Exp(b, api.Nat{3}, m))}, {"Inv", must(Inv(b, m))}} {
		out = append(out, reading{call.name, []api.Nat{call.told}})
	}
	small, none, _ := Div(b, a)
	return append(out, reading{"Div of what is below", []api.Nat{small, none}})
}

// P5.4, R2: nothing that is handed in is changed or kept, behind its end neither, and what is told is new memory.
func TestNothingIsChangedOrKept(t *testing.T) {
	const beyond = 0xabcdef01
	roomy := func(a api.Nat) api.Nat {
		out := append(make(api.Nat, 0, len(a)+8), a...)
		whole := out[:cap(out)]
		for i := len(a) + 2; i < len(whole); i++ {
			whole[i] = beyond
		}
		return out[:len(a)+2]
	}
	a, b, m := roomy(longest()), roomy(api.Nat{7, 9, 11}), roomy(api.Nat{0xfffffffb, 5})
	handed := []api.Nat{a, b, m}
	before := [][]uint32{slices.Clone(a[:cap(a)]), slices.Clone(b[:cap(b)]), slices.Clone(m[:cap(m)])}
	first := readings(a, b, m)
	for i, x := range handed {
		if !slices.Equal(x[:cap(x)], before[i]) {
			t.Errorf("what is handed in is changed: %x, %x before", x[:cap(x)], before[i])
		}
	}
	// All memory of what was told is written over: neither what was handed in nor what is told anew may change.
	second := readings(a, b, m)
	for _, x := range first {
		for i, list := range x.lists {
			for j := range list[:cap(list)] {
				list[:cap(list)][j] = uint32(i) + 1
			}
		}
		for i, list := range x.lists {
			for _, limb := range list {
				if limb != uint32(i)+1 {
					t.Errorf("%s: two lists of one answer share memory", x.call)
				}
			}
		}
	}
	for i, x := range handed {
		if !slices.Equal(x[:cap(x)], before[i]) {
			t.Error("what is told shares memory with what was handed in")
		}
	}
	for i, x := range readings(a, b, m) {
		for j, list := range x.lists {
			if !slices.Equal(list, second[i].lists[j]) {
				t.Errorf("%s tells something else after what it told was changed", x.call)
			}
		}
	}
}

// P5.4: bytes are neither changed nor kept, and told as new memory.
func TestBytesAreNeitherChangedNorKept(t *testing.T) {
	b := []byte{0, 0, 1, 2, 3, 4, 5}
	a, err := Read(b)
	if err != nil || !bytes.Equal(b, []byte{0, 0, 1, 2, 3, 4, 5}) {
		t.Fatalf("Read makes %x of what is handed in, %v", b, err)
	}
	clear(b)
	checkNat(t, "Read, after its bytes are cleared,", a, nil, big.NewInt(0x0102030405))
	first, _ := Write(a, 8)
	clear(first)
	second, _ := Write(a, 8)
	if !bytes.Equal(second, []byte{0, 0, 0, 1, 2, 3, 4, 5}) || !slices.Equal(a, api.Nat{0x02030405, 1}) {
		t.Errorf("Write tells %x of %x", second, a)
	}
}

// P1: one number for all, and such as have no limb that counts.
func TestOneNumberForAll(t *testing.T) {
	for _, a := range []api.Nat{nil, {}, {0}, {1}, {2}, {1<<32 - 1}, {0, 1}, longest(), padded(longest(), 3), make(api.Nat, 3000), tooLong()} {
		Cmp(a, a)
		Add(a, a)
		Sub(a, a)
		Mul(a, a)
		Div(a, a)
		Exp(a, a, a)
		Inv(a, a)
		for _, size := range []int{-1 << 63, -1, 0, 1, 256, 257, 1<<63 - 1} {
			Write(a, size)
		}
	}
}

func BenchmarkExpOfALongKey(b *testing.B)  { benchmarkExp(b, 32, 32) }
func BenchmarkExpOfAShortKey(b *testing.B) { benchmarkExp(b, 16, 16) }
func BenchmarkExpOfAShortExponent(b *testing.B) {
	benchmarkExp(b, 16, 1)
}
func BenchmarkExpOfTheLongest(b *testing.B) { benchmarkExp(b, 64, 64) }

func benchmarkExp(b *testing.B, limbs, exponents int) {
	r := draws()
	a, e, m := make(api.Nat, limbs), make(api.Nat, exponents), make(api.Nat, limbs)
	for _, x := range []api.Nat{a, e, m} {
		for i := range x {
			x[i] = r.Uint32()
		}
	}
	for range b.N {
		if _, err := Exp(a, e, m); err != nil {
			b.Fatal(err)
		}
	}
}

func BenchmarkInvOfTheLongest(b *testing.B) {
	r := draws()
	a, m := make(api.Nat, 64), make(api.Nat, 64)
	for i := range a {
		a[i], m[i] = r.Uint32(), r.Uint32()
	}
	m[0] |= 1
	for range b.N {
		Inv(a, m)
	}
}
