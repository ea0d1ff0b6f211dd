package rsa

import (
	"bytes"
	"slices"
	"testing"

	"charter/api"
)

// roomyNat has something behind its end, within its capacity, and a limb of 0 at its end.
func roomyNat(a api.Nat) api.Nat {
	whole := slices.Concat(a, api.Nat{0, 0xabcdef01, 0xabcdef02, 0xabcdef03})
	return whole[:len(a)+1]
}

func roomyBytes(b []byte) []byte {
	whole := slices.Concat(b, []byte("what lies behind it, within its capacity"))
	return whole[:len(b)]
}

// handed is all that is handed in, to be held against how it was.
type handed struct {
	numbers []api.Nat
	bytes   [][]byte
}

func (h handed) copied() handed {
	var out handed
	for _, a := range h.numbers {
		out.numbers = append(out.numbers, slices.Clone(a[:cap(a)]))
	}
	for _, b := range h.bytes {
		out.bytes = append(out.bytes, slices.Clone(b[:cap(b)]))
	}
	return out
}

func (h handed) same(before handed) bool {
	for i, a := range h.numbers {
		if !slices.Equal(a[:cap(a)], before.numbers[i]) {
			return false
		}
	}
	for i, b := range h.bytes {
		if !bytes.Equal(b[:cap(b)], before.bytes[i]) {
			return false
		}
	}
	return true
}

// P6.4, R2: nothing that is handed in is changed or kept, behind its end neither, and what is told is new memory.
func TestNothingIsChangedOrKept(t *testing.T) {
	r := draws()
	k := drawn(r, 62, 0, 65537)
	p, q, e, one := roomyNat(natOf(k.p)), roomyNat(natOf(k.q)), roomyNat(natOf(k.e)), roomyNat(api.Nat{1})
	s := api.Secret{N: roomyNat(natOf(k.n)), E: roomyNat(natOf(k.e)), D: roomyNat(natOf(k.d))}
	public := api.Public{N: s.N, E: s.E}
	text, fill := roomyBytes([]byte("abc")), roomyBytes(filler(r, 56))
	code := roomyBytes(raisedByGo(toHide(fill, text), k.e, k.n))
	sig := roomyBytes(raisedByGo(toSign(62, text), k.d, k.n))
	laid := roomyBytes(toHide(fill, text))
	all := handed{[]api.Nat{p, q, e, one, s.N, s.E, s.D}, [][]byte{text, fill, code, sig, laid}}
	before := all.copied()
	var first handed
	for range 3 {
		pair, err := Pair(p, q, e)
		if err != nil {
			t.Fatal(err)
		}
		code1, err1 := Hide(public, text, fill)
		shown, err2 := Show(s, code)
		// D of 1 leaves what is handed in as it was, so that sharing it would be at hand.
		shown1, err3 := Show(api.Secret{N: s.N, E: s.E, D: one}, laid)
		if err1 != nil || err2 != nil || err3 != nil || Verify(public, text, sig) != nil || Check(public) != nil {
			t.Fatal("a call that held, or a first one, doesn't hold", err1, err2, err3)
		}
		told := handed{[]api.Nat{pair.N, pair.E, pair.D}, [][]byte{signed(t, s, text), code1, shown, shown1}}
		if !all.same(before) {
			t.Fatal("what is handed in is changed, or shares memory with what was told")
		}
		kept := told.copied()
		for i, a := range told.numbers {
			kept.numbers[i] = slices.Clone(a)
			for j := range a[:cap(a)] {
				a[:cap(a)][j] = uint32(i)
			}
		}
		for i, a := range told.numbers {
			if slices.ContainsFunc(a, func(limb uint32) bool { return limb != uint32(i) }) {
				t.Error("two numbers of one key share memory")
			}
		}
		for i, b := range told.bytes {
			kept.bytes[i] = slices.Clone(b)
			clear(b[:cap(b)])
		}
		if first.numbers == nil {
			first = kept
			continue
		}
		for i, a := range kept.numbers {
			if !slices.Equal(a, first.numbers[i]) {
				t.Errorf("told number %d is %x, and was %x", i, a, first.numbers[i])
			}
		}
		for i, b := range kept.bytes {
			if !bytes.Equal(b, first.bytes[i]) {
				t.Errorf("told bytes %d are %x, and were %x", i, b, first.bytes[i])
			}
		}
	}
}

// P1: one of all kinds of arguments for all; what is answered with an error is nothing else.
func TestAnyArguments(t *testing.T) {
	r := draws()
	k := drawn(r, 62, 0, 65537)
	numbers := []api.Nat{nil, {0}, {1}, {2}, {3}, {0, 0, 0, 1}, make(api.Nat, 3000), natOf(power256(61, 1)), natOf(k.n), natOf(k.d), natOf(power256(128, -1)), natOf(power256(256, -1)), tooLong(), padded(tooLong(), 9)}
	lists := [][]byte{nil, {}, {0}, filler(r, 59), make([]byte, 62), bytes.Repeat([]byte{255}, 62), make([]byte, 128), bytes.Repeat([]byte{255}, 128), make([]byte, 300)}
	for _, a := range numbers {
		for _, b := range numbers {
			Check(api.Public{N: a, E: b})
			for _, c := range numbers {
				s := api.Secret{N: a, E: b, D: c}
				if got, err := Pair(a, b, c); err != nil && (got.N != nil || got.E != nil || got.D != nil) {
					t.Errorf("Pair tells %x beside %v", got, err)
				}
				for _, list := range lists[:6] {
					if got, err := Sign(s, list); err != nil && got != nil {
						t.Errorf("Sign tells %x beside %v", got, err)
					}
					if got, err := Show(s, list); err != nil && got != nil {
						t.Errorf("Show tells %x beside %v", got, err)
					}
				}
			}
			for _, text := range lists {
				for _, other := range lists {
					Verify(api.Public{N: a, E: b}, text, other)
					if got, err := Hide(api.Public{N: a, E: b}, text, other); err != nil && got != nil {
						t.Errorf("Hide tells %x beside %v", got, err)
					}
				}
			}
		}
	}
}

func BenchmarkSignByALongKey(b *testing.B)    { benchmarkSign(b, 128) }
func BenchmarkSignByAShortKey(b *testing.B)   { benchmarkSign(b, 62) }
func BenchmarkVerifyByALongKey(b *testing.B)  { benchmarkVerify(b, 128) }
func BenchmarkVerifyByAShortKey(b *testing.B) { benchmarkVerify(b, 62) }

func benchmarkSign(b *testing.B, size int) {
	s := drawn(draws(), size, 0, 65537).secret()
	for range b.N {
		if _, err := Sign(s, nil); err != nil {
			b.Fatal(err)
		}
	}
}

func benchmarkVerify(b *testing.B, size int) {
	k := drawn(draws(), size, 0, 65537)
	sig, err := Sign(k.secret(), nil)
	for range b.N {
		if err != nil || Verify(k.public(), nil, sig) != nil {
			b.Fatal(err)
		}
	}
}
