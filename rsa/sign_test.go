package rsa

import (
	"bytes"
	"crypto"
	gorsa "crypto/rsa"
	"crypto/sha256"
	"math/big"
	"math/rand"
	"slices"
	"testing"

	"charter/api"
)

// texts are some of several lengths.
func texts(r *rand.Rand) [][]byte {
	return [][]byte{nil, {0}, []byte("abc"), randomBytes(r, 63), randomBytes(r, 64), randomBytes(r, 1000)}
}

func signed(t *testing.T, s api.Secret, b []byte) []byte {
	t.Helper()
	sig, err := Sign(s, b)
	if err != nil {
		t.Fatalf("Sign: %v", err)
	}
	return sig
}

// P6.2: what is signed is what Go reckons, at each kind of key, and it holds.
func TestSignAndVerify(t *testing.T) {
	r := draws()
	for _, k := range keys(r) {
		for _, b := range texts(r) {
			sig := signed(t, k.secret(), b)
			if want := raisedByGo(toSign(k.size(), b), k.d, k.n); !bytes.Equal(sig, want) {
				t.Fatalf("Sign by %d bytes is %x, not %x", k.size(), sig, want)
			}
			if err := Verify(k.public(), b, sig); err != nil {
				t.Errorf("Verify by %d bytes: %v", k.size(), err)
			}
			checkError(t, "Verify of another text", Verify(k.public(), append(bytes.Clone(b), 0), sig), api.ErrSign)
		}
	}
}

// P6.1 to P6.3: keys, signatures and what is hidden, as OpenSSL made them.
func TestAsOpenSSLDoes(t *testing.T) {
	for _, x := range []struct{ p, q, sig, code string }{
		{
			"eac427da7fd202c98a6cc60308fa489d6636d750390b768e107b290dc9b7e701",
			"de04b95572bc9e05fa476582cf99d82f1ed87269e8dcd844d350d2be55cbc9d7",
			"593c5e3f99e44be93af16d81da6ade840eb4dba11160f419d47bdc88f2519a6ac1a32ed062839173951169c72bdf5d1a9a24d5efd5ab8081d6e0b0545cd77c43",
			"16298ff5f118b9de2667a5a90b7199ef493bd5ebc13219ca7210de989a2f26b1c9bf2c2cc914c2033cf88111bda33891074ec2d698274f6edfb581c17acfe4dd",
		},
		{
			"f80672c0498c9c2ed4f8e0a6f2862a2ecc09393525b086679dd10c629c40386a1d05a03658d6267fb1a3d012a6bef81735dd7cf5cf526b5b66f791ac35a64863",
			"ddd07bcc5bd3a652fcfc533d8232100b09659195e7cf1d129921c30ed1736e13b4b2631e3ba6e293d579e1837958131971a3f5068936e92e5f69d02f07dd6141",
			"1bd74895d719ef3e703c440a65962a63076984e52a948b5ce2b795a4820fd4bde7b78b29a01310d1138a66545b7401e2b1c81407dc633bd51559a78f7e65aabf2aaf9ec7e3440a24474e34a73775568b92dcdc9cfed6d76c3dc5790883b91e04c436dfef5f9aeafef159f254f8b4ff1253c3abbb803e3069d453ca61d93a8a30",
			"1d3bccb73cbbd4c2cd7fdd294b622a66656d8e7cb6a541b952d3df80d553f310f4d03cac6f350615d558cf7e832b5ecc7b2639eceb773808e9035c1be340c645b3aeb801c813bf0baac967bb7e979a3a6c22872bf4a372162a265681dce869c31479a556cd52ba53cfda78f4d2ca014f4f3250b0a378cf075d8dc349c11ce132",
		},
	} {
		p, q := new(big.Int).SetBytes(fromHex(t, x.p)), new(big.Int).SetBytes(fromHex(t, x.q))
		s, err := Pair(natOf(p), natOf(q), api.Nat{65537})
		if err != nil {
			t.Fatal(err)
		}
		if sig := signed(t, s, []byte("abc")); !bytes.Equal(sig, fromHex(t, x.sig)) {
			t.Errorf("abc is signed as %x", sig)
		}
		if err := Verify(api.Public{N: s.N, E: s.E}, []byte("abc"), fromHex(t, x.sig)); err != nil {
			t.Errorf("abc's signature: %v", err)
		}
		if text, err := Show(s, fromHex(t, x.code)); err != nil || string(text) != "who may call a key their own" {
			t.Errorf("what is hidden is shown as %q, %v", text, err)
		}
	}
}

// P6.2: as Go's own RSA signs and verifies, which takes its longer keys alone.
func TestAsGoSigns(t *testing.T) {
	r := draws()
	k := drawn(r, 128, 0, 65537)
	theirs := &gorsa.PrivateKey{PublicKey: gorsa.PublicKey{N: k.n, E: 65537}, D: k.d, Primes: []*big.Int{k.p, k.q}}
	for _, b := range texts(r) {
		digest := sha256.Sum256(b)
		want, err := gorsa.SignPKCS1v15(nil, theirs, crypto.SHA256, digest[:])
		if err != nil {
			t.Fatal(err)
		}
		if sig := signed(t, k.secret(), b); !bytes.Equal(sig, want) {
			t.Errorf("%x is signed as %x, not %x", b, sig, want)
		}
	}
}

// P6.2: keys that may be, though D makes nothing what it was, sign as they say.
func TestSignByAnyD(t *testing.T) {
	r := draws()
	k := drawn(r, 62, 0, 65537)
	for _, d := range []*big.Int{big.NewInt(1), big.NewInt(2), new(big.Int).Sub(k.n, big.NewInt(1)), new(big.Int).Rand(r, k.n)} {
		s := k.secret()
		s.D = natOf(d)
		want := raisedByGo(toSign(62, []byte("abc")), d, k.n)
		if sig := signed(t, s, []byte("abc")); !bytes.Equal(sig, want) {
			t.Errorf("signed by D %x: %x, not %x", d, sig, want)
		}
		checkError(t, "Verify", Verify(k.public(), []byte("abc"), want), api.ErrSign)
	}
	// D of 1 shows how it is laid out.
	s := k.secret()
	s.D = api.Nat{1}
	if sig := signed(t, s, []byte("abc")); !bytes.Equal(sig, fromHex(t, "0001ffffffffffffffff003031300d060960864801650304020105000420ba7816bf8f01cfea414140de5dae2223b00361a396177a9cb410ff61f20015ad")) {
		t.Errorf("abc is laid out as %x", sig)
	}
}

// badSecrets are such as may not be, each by one of its numbers.
func badSecrets(k parts) []api.Secret {
	good := k.secret()
	var out []api.Secret
	for _, d := range []*big.Int{big.NewInt(0), k.n, new(big.Int).Add(k.n, big.NewInt(1)), power256(256, 1), power256(300, 1)} {
		out = append(out, api.Secret{N: good.N, E: good.E, D: natOf(d)}, api.Secret{N: good.N, E: good.E, D: padded(natOf(d), 70)})
	}
	for _, p := range badPublics(k) {
		out = append(out, api.Secret{N: p.N, E: p.E, D: api.Nat{1}}, api.Secret{N: p.N, E: p.E, D: good.D})
	}
	return append(out, api.Secret{})
}

func badPublics(k parts) []api.Public {
	good := k.public()
	var out []api.Public
	for _, e := range []*big.Int{big.NewInt(0), big.NewInt(1), big.NewInt(2), big.NewInt(4), k.n, new(big.Int).Add(k.n, big.NewInt(2)), power256(300, 1)} {
		out = append(out, api.Public{N: good.N, E: natOf(e)})
	}
	for _, n := range []*big.Int{big.NewInt(0), big.NewInt(15), power256(61, -1), power256(61, 0), power256(128, 1), power256(256, -1), power256(300, 1), new(big.Int).Sub(k.n, big.NewInt(1))} {
		out = append(out, api.Public{N: natOf(n), E: good.E})
	}
	return append(out, api.Public{})
}

// P6.2, R1: keys that may not be, with right signatures and wrong ones.
func TestSignAndVerifyByBadKeys(t *testing.T) {
	k := drawn(draws(), 64, 0, 65537)
	sig := signed(t, k.secret(), []byte("abc"))
	for _, s := range badSecrets(k) {
		got, err := Sign(s, []byte("abc"))
		checkBytesRefused(t, "Sign", got, err, api.ErrArg)
	}
	for _, p := range badPublics(k) {
		for _, sig := range [][]byte{nil, sig, sig[1:], bytes.Repeat([]byte{255}, 64), make([]byte, 64)} {
			checkError(t, "Verify", Verify(p, []byte("abc"), sig), api.ErrArg)
		}
	}
}

// P6.2: numbers of keys with limbs of 0 at their ends are the same keys.
func TestKeysWithLimbsOfZero(t *testing.T) {
	r := draws()
	k := drawn(r, 63, 3, 65537)
	s := api.Secret{N: padded(natOf(k.n), 100), E: padded(natOf(k.e), 1), D: padded(natOf(k.d), 64)}
	p := api.Public{N: s.N, E: s.E}
	sig := signed(t, s, []byte("abc"))
	if !bytes.Equal(sig, signed(t, k.secret(), []byte("abc"))) || Verify(p, []byte("abc"), sig) != nil {
		t.Errorf("limbs of 0 make another signature: %x", sig)
	}
	fill := filler(r, 63-3-3)
	code, err := Hide(p, []byte("abc"), fill)
	if want := raisedByGo(toHide(fill, []byte("abc")), k.e, k.n); err != nil || !bytes.Equal(code, want) {
		t.Errorf("limbs of 0 hide otherwise: %x, %v", code, err)
	}
	if text, err := Show(s, code); err != nil || string(text) != "abc" {
		t.Errorf("limbs of 0 show otherwise: %x, %v", text, err)
	}
}

// P6.2, P6.5: no signature of another length holds, though it is the same number.
func TestVerifyOfOtherLengths(t *testing.T) {
	r := draws()
	for _, k := range []parts{drawn(r, 62, 0, 65537), drawn(r, 63, 7, 3), drawn(r, 128, 1, 65537)} {
		// A text whose signature begins with 00, which may not be left out.
		b := []byte("text 0")
		sig := signed(t, k.secret(), b)
		for sig[0] != 0 {
			b[5]++
			sig = signed(t, k.secret(), b)
		}
		if err := Verify(k.public(), b, sig); err != nil {
			t.Errorf("a signature with 00 ahead: %v", err)
		}
		for _, other := range [][]byte{nil, {}, {0}, sig[1:], sig[:len(sig)-1], append([]byte{0}, sig...), append(bytes.Clone(sig), 0), append(make([]byte, 200), sig...), append(bytes.Clone(sig), sig...), make([]byte, 5000)} {
			checkError(t, "Verify of another length", Verify(k.public(), b, other), api.ErrSign)
		}
	}
}

// P6.2: a signature is a number below N, though one above is left as the same.
func TestVerifyOfNumbersAboveN(t *testing.T) {
	k := drawn(draws(), 62, 4, 65537)
	b := []byte("abc")
	sig := signed(t, k.secret(), b)
	above := new(big.Int).Add(new(big.Int).SetBytes(sig), k.n)
	for above.BitLen() <= 62*8 {
		checkError(t, "Verify of a number above N", Verify(k.public(), b, above.FillBytes(make([]byte, 62))), api.ErrSign)
		above.Add(above, k.n)
	}
	for _, other := range []*big.Int{big.NewInt(0), big.NewInt(1), new(big.Int).Sub(k.n, big.NewInt(1)), k.n, new(big.Int).Add(k.n, big.NewInt(1)), power256(62, -1)} {
		checkError(t, "Verify at an edge", Verify(k.public(), b, other.FillBytes(make([]byte, 62))), api.ErrSign)
	}
}

// P6.2: no bit of a signature may be turned.
func TestVerifyOfTurnedBits(t *testing.T) {
	k := drawn(draws(), 62, 0, 3)
	sig := signed(t, k.secret(), []byte("abc"))
	for at := range 8 * len(sig) {
		turned := bytes.Clone(sig)
		turned[at/8] ^= 1 << (at % 8)
		checkError(t, "Verify of a turned bit", Verify(k.public(), []byte("abc"), turned), api.ErrSign)
	}
}

// P6.2: the whole layout counts, each of its bytes, and no shorter filling with something behind.
func TestVerifyOfOtherLayouts(t *testing.T) {
	r := draws()
	for _, k := range []parts{drawn(r, 62, 0, 65537), drawn(r, 100, 0, 3)} {
		size := k.size()
		b := []byte("abc")
		laid := toSign(size, b)
		if err := Verify(k.public(), b, raisedByGo(laid, k.d, k.n)); err != nil {
			t.Fatalf("the layout itself: %v", err)
		}
		text := laid[size-51:]
		var others [][]byte
		for at := range size {
			turned := bytes.Clone(laid)
			turned[at] ^= 1
			others = append(others, turned)
		}
		others = append(others,
			slices.Concat([]byte{0, 1}, laid[3:], []byte{0}),
			slices.Concat([]byte{0, 1, 255, 0}, text, randomBytes(r, size-4-51)),
			slices.Concat([]byte{0, 1, 0}, text, make([]byte, size-3-51)),
			slices.Concat([]byte{0, 2}, filler(r, size-3-51), []byte{0}, text),
			slices.Concat([]byte{0, 1}, filler(r, size-3-51), []byte{0}, text),
			slices.Concat(make([]byte, size-51), text),
			slices.Concat([]byte{0, 1}, bytes.Repeat([]byte{255}, size-3-32), []byte{0}, text[19:]),
			// The text of a digest without what stands for no parameters.
			slices.Concat([]byte{0, 1}, bytes.Repeat([]byte{255}, size-3-49), fromHex(t, "00302f300b0609608648016503040201"), []byte{4, 32}, text[19:]),
		)
		for _, other := range others {
			checkError(t, "Verify of another layout", Verify(k.public(), b, raisedByGo(other[:size], k.d, k.n)), api.ErrSign)
		}
	}
}

// P6.2: another one's key doesn't tell that it holds.
func TestVerifyByAnotherKey(t *testing.T) {
	r := draws()
	k, other := drawn(r, 64, 0, 65537), drawn(r, 64, 0, 65537)
	sig := signed(t, k.secret(), []byte("abc"))
	checkError(t, "Verify by another key", Verify(other.public(), []byte("abc"), sig), api.ErrSign)
	p := k.public()
	p.E = api.Nat{3}
	checkError(t, "Verify by another exponent", Verify(p, []byte("abc"), sig), api.ErrSign)
}

// P6.5: where two numbers are signatures of one text, both come to the same, E times multiplied.
func TestTwoSignaturesOfOneText(t *testing.T) {
	r := draws()
	// E of 3 has no inverse where p - 1 is three times something: then a number has three roots, or none.
	three := big.NewInt(3)
	p, q := primeModulo9(r, 4), primeModulo9(r, 2)
	n := new(big.Int).Mul(p, q)
	public := api.Public{N: natOf(n), E: api.Nat{3}}
	size := (n.BitLen() + 7) / 8
	root := unityRoot(r, p, q)
	held := 0
	for i := range 256 {
		b := []byte{byte(i)}
		sig, found := cubeRoot(new(big.Int).SetBytes(toSign(size, b)), p, q)
		if !found {
			continue
		}
		for range 3 {
			code := sig.FillBytes(make([]byte, size))
			if err := Verify(public, b, code); err != nil {
				t.Errorf("%x for %x: %v", code, b, err)
			}
			if !bytes.Equal(raisedByGo(code, three, n), toSign(size, b)) {
				t.Errorf("%x holds, but makes something else", code)
			}
			sig.Mul(sig, root).Mod(sig, n)
		}
		held++
	}
	if held < 20 {
		t.Errorf("%d texts have signatures", held)
	}
}

// primeModulo9 is a prime of which so much is left by 9.
func primeModulo9(r *rand.Rand, left int64) *big.Int {
	for {
		if p := primeOf(r, 250); new(big.Int).Mod(p, big.NewInt(9)).Int64() == left {
			return p
		}
	}
}

// unityRoot is a number whose cube is 1 modulo p times q, but which isn't 1; p - 1 is a multiple of three.
func unityRoot(r *rand.Rand, p, q *big.Int) *big.Int {
	one := big.NewInt(1)
	third := new(big.Int).Div(new(big.Int).Sub(p, one), big.NewInt(3))
	ofP := new(big.Int).Set(one)
	for ofP.Cmp(one) == 0 {
		base := new(big.Int).Add(new(big.Int).Rand(r, new(big.Int).Sub(p, one)), one)
		ofP.Exp(base, third, p)
	}
	return joinedRoots(ofP, one, p, q)
}

// joinedRoots is what is a modulo p, and b modulo q.
func joinedRoots(a, b, p, q *big.Int) *big.Int {
	apart := new(big.Int).Mul(new(big.Int).Sub(a, b), new(big.Int).ModInverse(q, p))
	out := new(big.Int).Add(b, new(big.Int).Mul(q, apart.Mod(apart, p)))
	return out.Mod(out, new(big.Int).Mul(p, q))
}

// cubeRoot is a root of x modulo p times q, if there is one; p is 4 modulo 9, q 2.
func cubeRoot(x, p, q *big.Int) (*big.Int, bool) {
	one, three := big.NewInt(1), big.NewInt(3)
	// p - 1 is three times m, and m no multiple of three: what makes 1 of 3 modulo m is the root's exponent.
	m := new(big.Int).Div(new(big.Int).Sub(p, one), three)
	ofP := new(big.Int).Exp(x, new(big.Int).ModInverse(three, m), p)
	ofQ := new(big.Int).Exp(x, new(big.Int).ModInverse(three, new(big.Int).Sub(q, one)), q)
	root := joinedRoots(ofP, ofQ, p, q)
	n := new(big.Int).Mul(p, q)
	return root, new(big.Int).Exp(root, three, n).Cmp(new(big.Int).Mod(x, n)) == 0
}
