package mac

import (
	"bytes"
	"crypto/hmac"
	"crypto/pbkdf2"
	"crypto/sha256"
	"encoding/hex"
	"errors"
	"math/rand"
	"strings"
	"testing"

	"charter/api"
)

// The tests' own draws: the same at each run.
func draws() *rand.Rand { return rand.New(rand.NewSource(2)) }

func randomBytes(r *rand.Rand, n int) []byte {
	b := make([]byte, n)
	r.Read(b)
	return b
}

func wantedMark(key, b []byte) []byte {
	h := hmac.New(sha256.New, key)
	h.Write(b)
	return h.Sum(nil)
}

func wantedDerived(t *testing.T, password, salt []byte, rounds, length int) []byte {
	t.Helper()
	if length == 0 {
		return nil
	}
	b, err := pbkdf2.Key(sha256.New, string(password), salt, rounds, length)
	if err != nil {
		t.Fatal(err)
	}
	return b
}

func wantedBased(password, salt []byte, rounds int) []byte {
	digest := sha256.Sum256([]byte(string(password) + string(salt)))
	for range rounds - 1 {
		digest = sha256.Sum256(digest[:])
	}
	return digest[:]
}

// P2.1: the examples of RFC 4231.
func TestMarkOfKnownTexts(t *testing.T) {
	for _, row := range []struct{ key, text, want string }{
		{"Jefe", "what do ya want for nothing?",
			"5bdcc146bf60754e6a042426089575c75a003f089d2739839dec58b964ec3843"},
		{strings.Repeat("\x0b", 20), "Hi There",
			"b0344c61d8db38535ca8afceaf0bf12b881dc200c9833da726e9376c2e32cff7"},
		{strings.Repeat("\xaa", 20), strings.Repeat("\xdd", 50),
			"773ea91e36800e46854db8ebd09181a72959098b3ef8c122d9635514ced565fe"},
		{strings.Repeat("\xaa", 131), "Test Using Larger Than Block-Size Key - Hash Key First",
			"60e431591ee0b67f0d8a26aacbf5b77f8e0bc6213728c5140546040f0ee37f54"},
	} {
		if got := hex.EncodeToString(Mark([]byte(row.key), []byte(row.text))); got != row.want {
			t.Errorf("Mark(%x, %s) is %s", row.key, row.text, got)
		}
	}
}

// P2.1: keys and texts of all lengths about the edges of a block.
func TestMarkOfEachLength(t *testing.T) {
	r := draws()
	lengths := []int{0, 1, 31, 32, 33, 54, 55, 56, 63, 64, 65, 66, 127, 128, 129, 1000}
	for _, n := range lengths {
		for _, m := range lengths {
			key, text := randomBytes(r, n), randomBytes(r, m)
			got := Mark(key, text)
			if len(got) != 32 || !bytes.Equal(got, wantedMark(key, text)) {
				t.Errorf("a key of %d bytes, a text of %d: %x", n, m, got)
			}
		}
	}
	if !bytes.Equal(Mark(nil, nil), Mark([]byte{}, []byte{})) {
		t.Error("no bytes, as nil and as empty, have two marks")
	}
}

// P2.1
func TestSame(t *testing.T) {
	for _, row := range []struct {
		a, b []byte
		want bool
	}{
		{nil, nil, true},
		{nil, []byte{}, true},
		{[]byte{}, nil, true},
		{nil, []byte{0}, false},
		{[]byte{0}, nil, false},
		{[]byte{0}, []byte{0, 0}, false},
		{[]byte{0, 0}, []byte{0}, false},
		{[]byte("mark"), []byte("mark"), true},
		{[]byte("mark"), []byte("Mark"), false},
		{[]byte("mark"), []byte("marK"), false},
		{[]byte("mark"), []byte("mar"), false},
		{[]byte{0x80}, []byte{0}, false},
	} {
		if got := Same(row.a, row.b); got != row.want {
			t.Errorf("Same(%x, %x) is %v", row.a, row.b, got)
		}
	}
}

// P2.1: one turned bit, wherever it is, makes them unlike.
func TestSameSeesEachBit(t *testing.T) {
	a := randomBytes(draws(), 40)
	for bit := range 8 * len(a) {
		b := bytes.Clone(a)
		if !Same(a, b) {
			t.Fatal("the same bytes are told as unlike")
		}
		b[bit/8] ^= 1 << (bit % 8)
		if Same(a, b) || Same(b, a) {
			t.Errorf("turned at bit %d they are told as the same", bit)
		}
	}
}

// P2.2: the examples of RFC 7914 and others that are told of PBKDF2 with SHA-256.
func TestDeriveOfKnownPasswords(t *testing.T) {
	for _, row := range []struct {
		password, salt string
		rounds         int
		want           string
	}{
		{"passwd", "salt", 1, "55ac046e56e3089fec1691c22544b605"},
		{"passwd", "salt", 1, "55ac046e56e3089fec1691c22544b605f94185216dde0465e68b9d57c20dacbc" +
			"49ca9cccf179b645991664b39d77ef317c71b845b1e30bd509112041d3a19783"},
		{"password", "salt", 1, "120fb6cffcf8b32c43e7225256c4f837a86548c92ccc35480805987cb70be17b"},
		{"password", "salt", 2, "ae4d0c95af6b46d32d0adff928f06dd02a303f8ef3c251dfd6e2d85a95474c43"},
		{"password", "salt", 4096, "c5e478d59288c841aa530db6845c4c8d962893a001ce4e11a4963873aa98134a"},
	} {
		got, err := Derive([]byte(row.password), []byte(row.salt), row.rounds, len(row.want)/2)
		if err != nil || hex.EncodeToString(got) != row.want {
			t.Errorf("%s, %s, %d rounds: %x, %v", row.password, row.salt, row.rounds, got, err)
		}
	}
}

// P2.2: each length, and passwords and salts about the edges.
func TestDeriveOfEachLength(t *testing.T) {
	r := draws()
	for length := range api.MaxDerive + 1 {
		password, salt := randomBytes(r, r.Intn(100)), randomBytes(r, r.Intn(100))
		rounds := 1 + r.Intn(4)
		got, err := Derive(password, salt, rounds, length)
		if err != nil || !bytes.Equal(got, wantedDerived(t, password, salt, rounds, length)) {
			t.Errorf("%x, %x, %d rounds, %d bytes: %x, %v", password, salt, rounds, length, got, err)
		}
	}
	for _, n := range []int{0, 63, 64, 65, 200} {
		for _, m := range []int{0, 4, 51, 52, 60, 64, 200} {
			password, salt := randomBytes(r, n), randomBytes(r, m)
			got, err := Derive(password, salt, 3, 70)
			if err != nil || !bytes.Equal(got, wantedDerived(t, password, salt, 3, 70)) {
				t.Errorf("a password of %d bytes, a salt of %d: %x, %v", n, m, got, err)
			}
		}
	}
}

// P2.2
func TestDeriveOfMostRounds(t *testing.T) {
	password, salt := []byte("password"), []byte("salt")
	for _, length := range []int{33, api.MaxDerive} {
		got, err := Derive(password, salt, api.MaxRounds, length)
		if err != nil || !bytes.Equal(got, wantedDerived(t, password, salt, api.MaxRounds, length)) {
			t.Errorf("%d bytes: %x, %v", length, got, err)
		}
	}
}

func checkRefused(t *testing.T, call string, got []byte, err, want error) {
	t.Helper()
	if got != nil || err != want {
		t.Errorf("%s is %x, %v, not %v", call, got, err, want)
	}
	var spot *api.Spot
	if errors.As(err, &spot) {
		t.Errorf("%s: the error is at a place", call)
	}
}

// P2.2: what may not be goes ahead of what is above a bound.
func TestDeriveRefuses(t *testing.T) {
	const low, high = -1 << 63, 1<<63 - 1
	for _, row := range []struct {
		rounds, length int
		want           error
	}{
		{0, 1, api.ErrArg}, {-1, 1, api.ErrArg}, {low, 1, api.ErrArg}, {1, -1, api.ErrArg}, {1, low, api.ErrArg},
		{0, -1, api.ErrArg}, {0, 257, api.ErrArg}, {10001, -1, api.ErrArg}, {low, high, api.ErrArg}, {high, low, api.ErrArg},
		{10001, 0, api.ErrLong}, {1, 257, api.ErrLong}, {high, high, api.ErrLong}, {high, 1, api.ErrLong}, {1, high, api.ErrLong},
	} {
		got, err := Derive([]byte("p"), []byte("s"), row.rounds, row.length)
		checkRefused(t, "Derive", got, err, row.want)
	}
}

// P2.2
func TestBasedGoesByItsRule(t *testing.T) {
	r := draws()
	for _, n := range []int{0, 1, 32, 63, 64, 65, 300} {
		for _, m := range []int{0, 1, 55, 64, 300} {
			for _, rounds := range []int{1, 2, 3, 50} {
				password, salt := randomBytes(r, n), randomBytes(r, m)
				got, err := Based(password, salt, rounds)
				if err != nil || !bytes.Equal(got, wantedBased(password, salt, rounds)) {
					t.Errorf("%x, %x, %d rounds: %x, %v", password, salt, rounds, got, err)
				}
			}
		}
	}
	got, err := Based([]byte("password"), []byte("salt"), api.MaxRounds)
	if err != nil || !bytes.Equal(got, wantedBased([]byte("password"), []byte("salt"), api.MaxRounds)) {
		t.Errorf("%d rounds: %x, %v", api.MaxRounds, got, err)
	}
}

// P2.2
func TestBasedRefuses(t *testing.T) {
	for rounds, want := range map[int]error{
		0: api.ErrArg, -1: api.ErrArg, -1 << 63: api.ErrArg, 10001: api.ErrLong, 1<<63 - 1: api.ErrLong,
	} {
		got, err := Based([]byte("p"), []byte("s"), rounds)
		checkRefused(t, "Based", got, err, want)
	}
}

// P2.3: what lies behind a handed-in slice, within its capacity, is the caller's too.
func TestNothingIsChanged(t *testing.T) {
	r := draws()
	for _, n := range []int{0, 1, 60, 64, 65, 200} {
		a, b := randomBytes(r, n+300), randomBytes(r, n+300)
		a0, b0 := bytes.Clone(a), bytes.Clone(b)
		Mark(a[:n], b[:n])
		Same(a[:n], b[:n])
		if _, err := Derive(a[:n], b[:n], 3, 100); err != nil {
			t.Fatal(err)
		}
		if _, err := Based(a[:n], b[:n], 3); err != nil {
			t.Fatal(err)
		}
		if !bytes.Equal(a, a0) || !bytes.Equal(b, b0) {
			t.Errorf("%d bytes: what was handed in, or what is behind, was changed", n)
		}
	}
}

// P2.3: neither do two answers share memory, nor an answer and what it was made of.
func TestAnswersAreNewMemory(t *testing.T) {
	calls := map[string]func(a, b []byte) []byte{
		"Mark": Mark,
		"Derive": func(a, b []byte) []byte {
			derived, _ := Derive(a, b, 2, 90)
			return derived
		},
		"Based": func(a, b []byte) []byte {
			based, _ := Based(a, b, 2)
			return based
		},
	}
	for name, call := range calls {
		for _, n := range []int{32, 64, 100} {
			a, b := randomBytes(draws(), n), randomBytes(draws(), n)
			first := call(a, b)
			want := bytes.Clone(first)
			again := call(a, b)
			clear(again)
			if !bytes.Equal(first, want) || !bytes.Equal(call(a, b), want) {
				t.Errorf("%s: answers share memory", name)
			}
			clear(a)
			clear(b)
			if !bytes.Equal(first, want) {
				t.Errorf("%s: an answer changes with what it was made of", name)
			}
		}
	}
}

// P2.4
func TestKeyMarksAsItsDigestOrWithZerosBehind(t *testing.T) {
	r := draws()
	for n := range 130 {
		key, text := randomBytes(r, n), randomBytes(r, r.Intn(100))
		other := append(bytes.Clone(key), make([]byte, max(0, 64-n))...)
		if n > 64 {
			digest := sha256.Sum256(key)
			other = digest[:]
		}
		if !Same(Mark(key, text), Mark(other, text)) {
			t.Errorf("a key of %d bytes marks unlike %x", n, other)
		}
	}
}

// P2.4
func TestFewerDerivedBytesAreABeginningOfMore(t *testing.T) {
	password, salt := []byte("password"), []byte("salt")
	most, err := Derive(password, salt, 5, api.MaxDerive)
	if err != nil {
		t.Fatal(err)
	}
	for length := range api.MaxDerive {
		if got, err := Derive(password, salt, 5, length); err != nil || !bytes.Equal(got, most[:length]) {
			t.Errorf("%d bytes: %x, %v", length, got, err)
		}
	}
}

// P2.4
func TestARoundMoreIsTheDigest(t *testing.T) {
	password, salt := []byte("password"), []byte("salt")
	based, err := Based(password, salt, 1)
	for rounds := 2; rounds < 20; rounds++ {
		digest := sha256.Sum256(based)
		if based, err = Based(password, salt, rounds); err != nil || !bytes.Equal(based, digest[:]) {
			t.Errorf("%d rounds: %x, %v", rounds, based, err)
		}
	}
}

func BenchmarkDeriveMost(b *testing.B) {
	for b.Loop() {
		Derive([]byte("password"), []byte("salt"), api.MaxRounds, api.MaxDerive)
	}
}
