package prim

import (
	"bytes"
	"math"
	"math/big"
	"math/rand"
	"slices"
	"testing"

	"charter/api"
)

// wantedNumber is a number's body by the document's words: the fewest bytes into which it goes in twos' complement.
func wantedNumber(n *big.Int) []byte {
	size := 1
	for {
		half := new(big.Int).Lsh(big.NewInt(1), uint(8*size-1))
		if n.Cmp(half) < 0 && n.Cmp(new(big.Int).Neg(half)) >= 0 {
			break
		}
		size++
	}
	all := new(big.Int).Lsh(big.NewInt(1), uint(8*size))
	return new(big.Int).Mod(n, all).FillBytes(make([]byte, size))
}

// numberOf is what bytes are in twos' complement, in as few as may be or not.
func numberOf(body []byte) *big.Int {
	n := new(big.Int).SetBytes(body)
	if len(body) > 0 && body[0] > 127 {
		n.Sub(n, new(big.Int).Lsh(big.NewInt(1), uint(8*len(body))))
	}
	return n
}

// isNumbers tells by the document's words whether a body is a number's.
func isNumbers(body []byte) bool {
	return len(body) > 0 && bytes.Equal(wantedNumber(numberOf(body)), body)
}

func bigOf(a api.Nat) *big.Int {
	out := new(big.Int)
	for i := len(a) - 1; i >= 0; i-- {
		out.Lsh(out, 32)
		out.Add(out, new(big.Int).SetUint64(uint64(a[i])))
	}
	return out
}

func natOf(b *big.Int) api.Nat {
	var out api.Nat
	limb := big.NewInt(1 << 32)
	for rest := new(big.Int).Set(b); rest.Sign() > 0; rest.Rsh(rest, 32) {
		out = append(out, uint32(new(big.Int).Mod(rest, limb).Uint64()))
	}
	return out
}

// power2 is 2 to that power, and something.
func power2(to int, and int64) *big.Int {
	n := new(big.Int).Lsh(big.NewInt(1), uint(to))
	return n.Add(n, big.NewInt(and))
}

// tooLong may not be reckoned with: 65 limbs count.
func tooLong() api.Nat { return append(make(api.Nat, api.MaxLimbs), 1) }

// someInts are numbers about all edges, and others.
func someInts(r *rand.Rand) []int64 {
	out := []int64{math.MinInt64, math.MaxInt64}
	for to := range 63 {
		for and := int64(-3); and <= 3; and++ {
			out = append(out, 1<<to+and, -(1<<to)+and)
		}
	}
	for range 3000 {
		out = append(out, int64(r.Uint64())>>r.Intn(64))
	}
	for n := int64(-70000); n <= 70000; n++ {
		out = append(out, n)
	}
	return out
}

// P8.1: the document's example, and others written out.
func TestIntWrittenOut(t *testing.T) {
	for n, want := range map[int64]string{
		-129: "ff7f", -128: "80", -127: "81", -1: "ff", 0: "00", 1: "01", 127: "7f", 128: "0080", 255: "00ff", 256: "0100",
		-256: "ff00", -257: "feff", 32767: "7fff", 32768: "008000", -32768: "8000", -32769: "ff7fff",
		math.MaxInt64: "7fffffffffffffff", math.MinInt64: "8000000000000000", math.MinInt64 + 1: "8000000000000001",
		1 << 55: "0080000000000000", 1<<55 - 1: "7fffffffffffff", -(1 << 55): "80000000000000", -(1 << 55) - 1: "ff7fffffffffffff",
	} {
		body := unhex(t, want)
		if got := Int(n); !bytes.Equal(got, body) {
			t.Errorf("Int(%d) is %x, not %x", n, got, body)
		}
		if got, err := ReadInt(body); got != n || err != nil {
			t.Errorf("ReadInt(%x) is %d, %v, not %d", body, got, err, n)
		}
	}
	_, err := ReadInt([]byte{0, 0x7f})
	checkError(t, "ReadInt of 00 7f", err, api.ErrForm)
}

// P8.1, P8.7: numbers about each edge, as the words have them and as Go's own encoding does.
func TestIntAndReadInt(t *testing.T) {
	for i, n := range someInts(draws()) {
		got := Int(n)
		if want := wantedNumber(big.NewInt(n)); !bytes.Equal(got, want) {
			t.Fatalf("Int(%d) is %x, not %x", n, got, want)
		}
		if i < 5000 && !bytes.Equal(got, bodyByGo(t, n)) {
			t.Fatalf("Int(%d) is %x, not as Go's", n, got)
		}
		if read, err := ReadInt(got); read != n || err != nil {
			t.Fatalf("ReadInt of %d's body is %d, %v", n, read, err)
		}
	}
}

// checkReadInt checks one body by the document's words.
func checkReadInt(t *testing.T, body []byte) {
	t.Helper()
	got, err := ReadInt(body)
	want := error(nil)
	switch {
	case !isNumbers(body):
		want = api.ErrForm
	case len(body) > 8:
		want = api.ErrLong
	}
	checkError(t, "ReadInt", err, want)
	if want != nil {
		if got != 0 {
			t.Errorf("ReadInt of %x is %d beside an error", short(body), got)
		}
		return
	}
	if !numberOf(body).IsInt64() || got != numberOf(body).Int64() {
		t.Errorf("ReadInt of %x is %d", body, got)
	}
	if again := Int(got); !bytes.Equal(again, body) {
		t.Errorf("%x is read, and written as %x", body, again)
	}
}

// P8.1, P8.7: all bodies of two bytes at most, and all of five of those bytes that matter.
func TestReadIntOfAllShortBodies(t *testing.T) {
	var all []byte
	for b := range 256 {
		all = append(all, byte(b))
	}
	for _, body := range allShort(all, 2) {
		checkReadInt(t, body)
	}
	for _, body := range allShort([]byte{0, 1, 0x7f, 0x80, 0xfe, 0xff}, 5) {
		checkReadInt(t, body)
	}
	checkReadInt(t, nil)
}

// P8.1, R1: where a body is too long, and where it is none's first of all.
func TestReadIntOfEachLength(t *testing.T) {
	r := draws()
	for n := range 40 {
		for _, ahead := range allShort([]byte{0, 1, 0x7f, 0x80, 0xff}, 2) {
			for _, fill := range []byte{0, 0x7f, 0x80, 0xff} {
				checkReadInt(t, append(bytes.Clone(ahead), bytes.Repeat([]byte{fill}, n)...))
			}
			checkReadInt(t, append(bytes.Clone(ahead), randomBytes(r, n)...))
		}
	}
	for body, want := range map[string]error{
		"008000000000000000": api.ErrLong, "ff7fffffffffffffff": api.ErrLong, "010000000000000000": api.ErrLong,
		"000000000000000001": api.ErrForm, "ffffffffffffffffff": api.ErrForm, "": api.ErrForm, "ff80": api.ErrForm, "0000": api.ErrForm,
	} {
		_, err := ReadInt(unhex(t, body))
		checkError(t, "ReadInt of "+body, err, want)
	}
	_, err := ReadInt(make([]byte, 1<<20))
	checkError(t, "ReadInt of many 00", err, api.ErrForm)
	_, err = ReadInt(bytes.Repeat([]byte{5}, 1<<20))
	checkError(t, "ReadInt of many 05", err, api.ErrLong)
}

// checkBig checks a number there and back, however many limbs of 0 stand at its end.
func checkBig(t *testing.T, n *big.Int) {
	t.Helper()
	want := wantedNumber(n)
	for _, behind := range []int{0, 1, 70} {
		got, err := Big(slices.Concat(natOf(n), make(api.Nat, behind)))
		checkBytes(t, "Big", got, err, want)
	}
	read, err := ReadBig(want)
	if err != nil || !slices.Equal(read, natOf(n)) {
		t.Errorf("ReadBig of %x is %x, %v", short(want), read, err)
	}
}

// P8.2, P8.7: numbers about each power of 2 up to the greatest that may be reckoned with.
func TestBigAndReadBig(t *testing.T) {
	for to := range 2049 {
		for and := int64(-1); and <= 1; and++ {
			n := power2(to, and)
			if n.Sign() >= 0 && n.BitLen() <= 2048 {
				checkBig(t, n)
			}
		}
	}
	r := draws()
	for n := range 257 {
		checkBig(t, new(big.Int).SetBytes(randomBytes(r, n)))
		checkBig(t, new(big.Int).SetBytes(bytes.Repeat([]byte{0xff}, n)))
	}
	for n := range int64(1000) {
		checkBig(t, big.NewInt(n))
		want := bodyByGo(t, n)
		got, err := Big(api.Nat{uint32(n)})
		checkBytes(t, "Big as Go tells it", got, err, want)
	}
	for _, none := range []api.Nat{nil, {}, {0}, {0, 0, 0}, make(api.Nat, 1000)} {
		got, err := Big(none)
		checkBytes(t, "Big of 0", got, err, []byte{0})
	}
}

// P8.2: numbers that may not be reckoned with.
func TestBigOfTooLong(t *testing.T) {
	for _, n := range []api.Nat{tooLong(), append(tooLong(), 0), append(tooLong(), 5), append(make(api.Nat, 5000), 1), slices.Repeat(api.Nat{7}, 65)} {
		got, err := Big(n)
		checkRefused(t, "Big of 65 limbs", got, err, api.ErrLong)
	}
}

// checkReadBig checks one body by the document's words.
func checkReadBig(t *testing.T, body []byte) {
	t.Helper()
	got, err := ReadBig(body)
	want := error(nil)
	switch {
	case !isNumbers(body) || numberOf(body).Sign() < 0:
		want = api.ErrForm
	case numberOf(body).BitLen() > 32*api.MaxLimbs:
		want = api.ErrLong
	}
	checkError(t, "ReadBig", err, want)
	if want != nil {
		if got != nil {
			t.Errorf("ReadBig of %x is %x beside an error", short(body), got)
		}
		return
	}
	if bigOf(got).Cmp(numberOf(body)) != 0 || len(got) > 0 && got[len(got)-1] == 0 {
		t.Errorf("ReadBig of %x is %x", short(body), got)
	}
	again, err := Big(got)
	checkBytes(t, "Big of what was read", again, err, body)
}

// P8.2, P8.7: all bodies of two bytes at most, and all of five of those bytes that matter.
func TestReadBigOfAllShortBodies(t *testing.T) {
	var all []byte
	for b := range 256 {
		all = append(all, byte(b))
	}
	for _, body := range allShort(all, 2) {
		checkReadBig(t, body)
	}
	for _, body := range allShort([]byte{0, 1, 0x7f, 0x80, 0xff}, 5) {
		checkReadBig(t, body)
	}
	checkReadBig(t, nil)
}

// P8.2, R1: about the length that is too long, where a body may be none's, or of one below 0, first of all.
func TestReadBigOfEachLength(t *testing.T) {
	r := draws()
	for n := range 300 {
		for _, ahead := range [][]byte{{}, {0}, {1}, {0x7f}, {0x80}, {0xff}, {0, 0}, {0, 1}, {0, 0x80}, {0, 0xff}, {0xff, 0}, {0xff, 0xff}} {
			checkReadBig(t, append(bytes.Clone(ahead), bytes.Repeat([]byte{0xff}, n)...))
			checkReadBig(t, append(bytes.Clone(ahead), make([]byte, n)...))
			checkReadBig(t, append(bytes.Clone(ahead), randomBytes(r, n)...))
		}
	}
	longest := append([]byte{0}, bytes.Repeat([]byte{0xff}, 256)...)
	got, err := ReadBig(longest)
	if err != nil || len(got) != 64 || got[0] != math.MaxUint32 || got[63] != math.MaxUint32 {
		t.Errorf("the greatest number is read as %x, %v", got, err)
	}
	_, err = ReadBig(append([]byte{1}, make([]byte, 256)...))
	checkError(t, "ReadBig of one above it", err, api.ErrLong)
	_, err = ReadBig(append([]byte{0, 0x80}, make([]byte, 256)...))
	checkError(t, "ReadBig of a greater one", err, api.ErrLong)
	_, err = ReadBig(append([]byte{0}, make([]byte, 300)...))
	checkError(t, "ReadBig of many 00", err, api.ErrForm)
	_, err = ReadBig(bytes.Repeat([]byte{0x80}, 300))
	checkError(t, "ReadBig of a long one below 0", err, api.ErrForm)
}
