package cert

import (
	"bytes"
	"crypto"
	gorsa "crypto/rsa"
	"crypto/x509"
	"crypto/x509/pkix"
	"encoding/asn1"
	"math/big"
	"slices"
	"testing"
	"time"

	"charter/api"
	"charter/rsa"
)

// issued is a certificate of a say that may be.
func issued(t *testing.T, c api.Cert, s api.Secret) []byte {
	t.Helper()
	b, err := Issue(c, s)
	if err != nil {
		t.Fatalf("Issue of %v: %v", c, err)
	}
	return b
}

// checkIssued checks a certificate that was issued: how it is laid out, what is decoded of it, and by whom it holds.
func checkIssued(t *testing.T, c api.Cert, s api.Secret) {
	t.Helper()
	b := issued(t, c, s)
	body := words.body(c)
	sig, err := rsa.Sign(s, body)
	if err != nil || !bytes.Equal(b, words.certificate(body, sig)) {
		t.Errorf("Issue of %v is %x, not %x with %x, %v", c, b, body, sig, err)
	}
	if got, err := Decode(b); err != nil || !sameCert(got, counted(c)) {
		t.Errorf("%v is decoded as %v, %v", c, got, err)
	}
	checkError(t, "Holds by its key", Holds(b, publicOf(s)), nil)
	for _, other := range []api.Secret{shortKey(), longKey(), shortestKey()} {
		if bigOf(other.N).Cmp(bigOf(s.N)) != 0 {
			checkError(t, "Holds by another key", Holds(b, publicOf(other)), api.ErrSign)
		}
	}
	for v := range 256 {
		more := append(bytes.Clone(b), byte(v))
		_, err := Decode(more)
		checkError(t, "Decode with a byte more", err, api.ErrForm)
		checkError(t, "Holds with a byte more", Holds(more, publicOf(s)), api.ErrForm)
	}
}

// P10.4, P10.6: says of all kinds, by keys of all sizes.
func TestIssue(t *testing.T) {
	r := draws()
	for range 60 {
		c := drawnSay(r)
		for !mayBe(c) {
			c = drawnSay(r)
		}
		for _, s := range []api.Secret{shortKey(), longKey(), shortestKey()} {
			checkIssued(t, c, s)
		}
	}
	for _, c := range []api.Cert{plain(), full(), longest()} {
		checkIssued(t, c, shortKey())
	}
}

// badSecrets may not be.
func badSecrets() []api.Secret {
	s := shortKey()
	return []api.Secret{
		{}, {N: s.N, E: s.E}, {N: s.N, D: s.D}, {E: s.E, D: s.D},
		{N: s.N, E: s.E, D: s.N}, {N: s.N, E: s.E, D: api.Nat{0, 0}}, {N: s.N, E: api.Nat{4}, D: s.D},
		{N: api.Nat{15}, E: api.Nat{3}, D: api.Nat{3}}, {N: power256(129, 1), E: s.E, D: s.D},
		{N: power256(300, 1), E: s.E, D: power256(300, -1)},
	}
}

// P10.4: what may not be issued, and what may not sign.
func TestIssueOfWhatMayNotBe(t *testing.T) {
	refused := func(c api.Cert, s api.Secret) {
		t.Helper()
		b, err := Issue(c, s)
		checkError(t, "Issue", err, api.ErrArg)
		if b != nil {
			t.Errorf("Issue tells %x beside an error", short(b))
		}
	}
	for _, s := range badSecrets() {
		refused(full(), s)
		refused(api.Cert{}, s)
	}
	for _, change := range []func(*api.Cert){
		func(c *api.Cert) { *c = api.Cert{} }, func(c *api.Cert) { c.Serial = nil },
		func(c *api.Cert) { c.Issuer = nil }, func(c *api.Cert) { c.Subject = api.Name{{}} },
		func(c *api.Cert) { c.From, c.To = c.To, c.From }, func(c *api.Cert) { c.Key.E = nil },
		func(c *api.Cert) { c.Depth = 9 }, func(c *api.Cert) { c.Uses = 512 },
		func(c *api.Cert) { c.Permitted = make([]api.Name, 5) },
		func(c *api.Cert) { c.Excluded = make([]api.Name, 5) },
		func(c *api.Cert) { c.Policies = [][]uint32{{1, 2}, {1, 2}} },
	} {
		refused(changed(full(), change), shortKey())
		refused(changed(full(), change), api.Secret{})
	}
	// A secret that signs falsely may be one.
	s := shortKey()
	s.D = api.Nat{1}
	b := issued(t, full(), s)
	checkError(t, "Holds of a false signature", Holds(b, publicOf(s)), api.ErrSign)
	if got, err := Decode(b); err != nil || !sameCert(got, full()) {
		t.Errorf("Decode of one with a false signature is %v, %v", got, err)
	}
}

// P10.4: Split's error is told ahead of that of the key, and that ahead of the signature's.
func TestHoldsTellsTheFirstError(t *testing.T) {
	b := issued(t, full(), shortKey())
	turned := bytes.Clone(b)
	turned[len(turned)-1] ^= 1
	for _, s := range badSecrets() {
		k := publicOf(s)
		if keyMay(k) {
			continue
		}
		checkError(t, "Holds by no key", Holds(b, k), api.ErrArg)
		checkError(t, "Holds by no key, of a false signature", Holds(turned, k), api.ErrArg)
		checkError(t, "Holds by no key, of no certificate", Holds(b[1:], k), api.ErrForm)
		checkError(t, "Holds by no key, of nothing", Holds(nil, k), api.ErrForm)
	}
	checkError(t, "Holds of a false signature", Holds(turned, publicOf(shortKey())), api.ErrSign)
	checkError(t, "Holds of nothing", Holds(nil, publicOf(shortKey())), api.ErrForm)
	checkError(t, "Holds of a body", Holds(words.body(full()), publicOf(shortKey())), api.ErrForm)
}

// P10.4: it holds just with its own body and its own signature.
func TestHoldsOfOneFault(t *testing.T) {
	s := shortKey()
	b := issued(t, full(), s)
	body, sig, err := Split(b)
	if err != nil {
		t.Fatal(err)
	}
	for at := range b {
		turned := bytes.Clone(b)
		turned[at] ^= 1 << (at % 8)
		want := error(api.ErrSign)
		if _, _, is := splitOf(turned); !is {
			want = api.ErrForm
		}
		checkError(t, "Holds of a byte turned", Holds(turned, publicOf(s)), want)
	}
	for _, other := range [][]byte{
		nil, {0}, sig[1:], append([]byte{0}, sig...), append(bytes.Clone(sig), 0),
		bytes.Repeat([]byte{0xff}, 64), make([]byte, 64), make([]byte, 128),
	} {
		checkError(t, "Holds of another signature", Holds(words.certificate(body, other), publicOf(s)), api.ErrSign)
	}
	more := new(big.Int).Add(new(big.Int).SetBytes(sig), bigOf(s.N))
	if more.BitLen() <= 8*64 {
		checkError(t, "Holds of N more", Holds(words.certificate(body, more.FillBytes(make([]byte, 64))), publicOf(s)), api.ErrSign)
	}
	checkError(t, "Holds of another body", Holds(words.certificate(words.body(plain()), sig), publicOf(s)), api.ErrSign)
}

// P10.4: what holds needn't be decoded: lists hold so, too.
func TestHoldsOfAnyBody(t *testing.T) {
	s := shortKey()
	for _, body := range [][]byte{{0x30, 0}, {0x30, 1, 0xff}, element(0x30, []byte("anything")), element(0x30, make([]byte, 60000))} {
		sig, err := rsa.Sign(s, body)
		if err != nil {
			t.Fatal(err)
		}
		b := words.certificate(body, sig)
		checkError(t, "Holds of any body", Holds(b, publicOf(s)), nil)
		checkError(t, "Holds by another key", Holds(b, publicOf(longKey())), api.ErrSign)
		_, err = Decode(b)
		checkError(t, "Decode of any body", err, api.ErrForm)
	}
}

// Certificates that OpenSSL made: one of an authority with each extension, by its own key, and one that it issued.
const (
	authorityByOpenSSL = "308201db30820185a00302010202050080010203300d06092a864886f70d01010b0500302e310b30090603550406130241543110300e060355040a0c" +
		"0743686172746572310d300b06035504030c04526f6f743020170d3439313233313233353935395a180f32303530303130313030303030305a" +
		"302e310b30090603550406130241543110300e060355040a0c0743686172746572310d300b06035504030c04526f6f74305c300d06092a864886f70d" +
		"0101010500034b003048024100aebc021751d81f1cd07219eda0b0d42dd5e9d2a6c96eea0149b5e682b12e39cfb16cdd239e78cec62af20df1dcdd7c" +
		"11f53d48219b64485562e8f1779d61385d0203010001" +
		"a3818730818430120603551d130101ff040830060101ff020102300e0603551d0f0101ff04040302010630450603551d1e0101ff043b3039a0133011" +
		"a40f300d310b3009060355040613024154a1223020a41e301c310b3009060355040613024154310d300b060355040a0c04456c736530170603551d20" +
		"0410300e300506032a030430050603883707" +
		"300d06092a864886f70d01010b050003410076b1dd8290ba523b2e0a7c97980107f520a174aae0b2c368f94bace4bcfe6c555772df64173185200eda" +
		"64769efb3168ef45458a202a4902432b10c579e44330"
	leafByOpenSSL = "308201943082013ea00302010202017f300d06092a864886f70d01010b0500302e310b30090603550406130241543110300e060355040a0c07436861" +
		"72746572310d300b06035504030c04526f6f74301e170d3530303130313030303030305a170d3439313233313233353935395a" +
		"301e310d300b060355040a0c04c3842062310d300b06035504030c046c65616630819f300d06092a864886f70d010101050003818d00308189028181" +
		"00ba1789b7ac4599dc721a337bf5066be5802096ec7c4eef573616573fd3a528ae293b3cd81ab05c59e8f71f3fb8792b1edafd49d9ffbe79ca44d057" +
		"a636db71cfea79ea6d8fe4c741a590f701b96ef513cbea96900ed32e63ed7d7d7ec4b37ed5f6431c7e62820c235695c13b5249fb90ff97332979872e" +
		"f1845ee10f5feb3d990203010001" +
		"a3133011300f0603551d0f0101ff0405030307a080300d06092a864886f70d01010b05000341009f687d81d00b283425c3a794380b9b82151e459d2a" +
		"ca6c6446a5d7329d2eb54fe34c79b8d6e192f3d2577872763f27d4b6b74658015aea09e9cc6eef41a70354"
)

// step is one of a name, of one attribute.
func step(last uint32, mark byte, text string) []api.Attr {
	return []api.Attr{{Type: []uint32{2, 5, 4, last}, Mark: mark, Text: []byte(text)}}
}

// P10.3, P10.4: what OpenSSL made is decoded and holds, and what is issued here is what OpenSSL made.
func TestAsOpenSSLDoes(t *testing.T) {
	country := step(6, 0x13, "AT")
	root := api.Name{country, step(10, 0x0c, "Charter"), step(3, 0x0c, "Root")}
	for s, want := range map[string]api.Cert{
		authorityByOpenSSL: {
			Serial: api.Nat{0x80010203}, Issuer: root, Subject: root, Key: publicOf(shortKey()), Authority: true, Depth: 2, Uses: api.UseCert | api.UseCrl,
			From: api.Time{Year: 2049, Month: 12, Day: 31, Hour: 23, Minute: 59, Second: 59}, To: api.Time{Year: 2050, Month: 1, Day: 1},
			Permitted: []api.Name{{country}}, Excluded: []api.Name{{country, step(10, 0x0c, "Else")}}, Policies: [][]uint32{{1, 2, 3, 4}, {2, 999, 7}},
		},
		leafByOpenSSL: {
			Serial: api.Nat{127}, Issuer: root, Subject: api.Name{step(10, 0x0c, "Ä b"), step(3, 0x0c, "leaf")},
			Key: publicOf(longKey()), Depth: -1, Uses: api.UseSign | api.UseHide | 256,
			From: api.Time{Year: 1950, Month: 1, Day: 1}, To: api.Time{Year: 2049, Month: 12, Day: 31, Hour: 23, Minute: 59, Second: 59},
		},
	} {
		b := unhex(s)
		if got, err := Decode(b); err != nil || !sameCert(got, want) {
			t.Errorf("what OpenSSL made is decoded as %v, %v, not %v", got, err, want)
		}
		checkError(t, "Holds of what OpenSSL made", Holds(b, publicOf(shortKey())), nil)
		checkError(t, "Holds of what OpenSSL made, by another key", Holds(b, publicOf(longKey())), api.ErrSign)
		if got := issued(t, want, shortKey()); !bytes.Equal(got, b) {
			t.Errorf("Issue is %x, by OpenSSL %x", got, b)
		}
	}
}

// goName is a name as Go tells it.
func goName(n api.Name) pkix.RDNSequence {
	var out pkix.RDNSequence
	for _, step := range n {
		var set pkix.RelativeDistinguishedNameSET
		for _, a := range step {
			set = append(set, pkix.AttributeTypeAndValue{Type: goOid(a.Type), Value: asn1.RawValue{Tag: int(a.Mark), Bytes: a.Text}})
		}
		out = append(out, set)
	}
	return out
}

func goOid(l []uint32) asn1.ObjectIdentifier {
	var out asn1.ObjectIdentifier
	for _, n := range l {
		out = append(out, int(n))
	}
	return out
}

func goTime(t api.Time) time.Time {
	return time.Date(t.Year, time.Month(t.Month), t.Day, t.Hour, t.Minute, t.Second, 0, time.UTC)
}

// P10.1, P10.4: what is issued is, by Go's own reader, what the say says, and signed.
func TestAsGoReadsIt(t *testing.T) {
	r := draws()
	signer := longKey()
	key := gorsa.PublicKey{N: bigOf(signer.N), E: 65537}
	for range 300 {
		c := drawnSay(r)
		c.Key = publicOf(longKey())
		if !mayBe(c) {
			continue
		}
		got, err := x509.ParseCertificate(issued(t, c, signer))
		if err != nil {
			t.Errorf("Go doesn't read %v: %v", c, err)
			continue
		}
		issuer, _ := asn1.Marshal(goName(c.Issuer))
		if got.Version != 3 || got.SerialNumber.Cmp(bigOf(c.Serial)) != 0 || !bytes.Equal(got.RawIssuer, issuer) ||
			!got.NotBefore.Equal(goTime(c.From)) || !got.NotAfter.Equal(goTime(c.To)) {
			t.Errorf("Go reads %v as %v, %v, %v to %v", c, got.SerialNumber, got.Issuer, got.NotBefore, got.NotAfter)
		}
		depth := c.Depth
		if !c.Authority {
			depth = 0
		}
		if got.IsCA != c.Authority || got.BasicConstraintsValid != c.Authority || got.MaxPathLen != depth || int(got.KeyUsage) != c.Uses {
			t.Errorf("Go reads %v as %v, %v, %v, %b", c, got.IsCA, got.BasicConstraintsValid, got.MaxPathLen, got.KeyUsage)
		}
		if !slices.EqualFunc(got.Policies, c.Policies, func(p x509.OID, l []uint32) bool { return p.String() == goOid(l).String() }) {
			t.Errorf("Go reads the policies %v as %v", c.Policies, got.Policies)
		}
		if of, ok := got.PublicKey.(*gorsa.PublicKey); !ok || !of.Equal(&key) {
			t.Errorf("Go reads the key %v", got.PublicKey)
		}
		signer := x509.Certificate{PublicKeyAlgorithm: x509.RSA, PublicKey: &key}
		if err := signer.CheckSignature(got.SignatureAlgorithm, got.RawTBSCertificate, got.Signature); err != nil || got.SignatureAlgorithm != x509.SHA256WithRSA {
			t.Errorf("by Go the signature is %v", err)
		}
		for _, e := range got.Extensions {
			if e.Critical == e.Id.Equal(asn1.ObjectIdentifier{2, 5, 29, 32}) {
				t.Errorf("%v is grave: %v", e.Id, e.Critical)
			}
		}
	}
}

// P10.3, P10.4: what Go makes of a say is what is issued here.
func TestAsGoMakesIt(t *testing.T) {
	r := draws()
	s := longKey()
	made := 0
	for range 100 {
		c := drawnSay(r)
		c.Key = publicOf(s)
		if !mayBe(c) {
			continue
		}
		signer := goSigner(t)
		issuer, _ := asn1.Marshal(goName(c.Issuer))
		subject, _ := asn1.Marshal(goName(c.Subject))
		of := &x509.Certificate{
			SerialNumber: bigOf(c.Serial), RawSubject: subject, NotBefore: goTime(c.From), NotAfter: goTime(c.To),
			ExtraExtensions: goExtensions(c), SignatureAlgorithm: x509.SHA256WithRSA,
		}
		b, err := x509.CreateCertificate(nil, of, &x509.Certificate{RawSubject: issuer, PublicKey: signer.Public()}, signer.Public(), signer)
		if err != nil {
			t.Fatal(err)
		}
		if got, err := Decode(b); err != nil || !sameCert(got, c) {
			t.Errorf("what Go made of %v is decoded as %v, %v", c, got, err)
		}
		checkError(t, "Holds of what Go made", Holds(b, publicOf(s)), nil)
		if got := issued(t, c, s); !bytes.Equal(got, b) {
			t.Errorf("Issue is %x, by Go %x", got, b)
		}
		made++
	}
	if made < 40 {
		t.Errorf("Go made %d certificates", made)
	}
}

func goSigner(t *testing.T) crypto.Signer {
	t.Helper()
	s := longKey()
	p := new(big.Int).SetBytes(unhex("e704b633fa8281b0eedd8a14696045585a394af68e52fe193955c3e8a74bedd3f41adeb254c85a053b256d148f80aca05bbc6deb3c7f731a2fbd550d" +
		"281083e1"))
	key := &gorsa.PrivateKey{PublicKey: gorsa.PublicKey{N: bigOf(s.N), E: 65537}, D: bigOf(s.D), Primes: []*big.Int{p, new(big.Int).Div(bigOf(s.N), p)}}
	if err := key.Validate(); err != nil {
		t.Fatal(err)
	}
	return key
}

// goExtensions are a say's, laid out by Go's own encoding.
func goExtensions(c api.Cert) []pkix.Extension {
	var l []pkix.Extension
	add := func(last int, grave bool, said any) {
		b, err := asn1.Marshal(said)
		if err != nil {
			panic(err)
		}
		l = append(l, pkix.Extension{Id: asn1.ObjectIdentifier{2, 5, 29, last}, Critical: grave, Value: b})
	}
	if c.Authority {
		add(19, true, struct {
			Is    bool
			Depth int `asn1:"optional,default:-1"`
		}{true, c.Depth})
	}
	if c.Uses != 0 {
		var bits asn1.BitString
		for i := range 9 {
			if c.Uses>>i&1 == 1 {
				bits.BitLength = i + 1
			}
		}
		bits.Bytes = make([]byte, (bits.BitLength+7)/8)
		for i := range bits.BitLength {
			bits.Bytes[i/8] |= byte(c.Uses>>i&1) << (7 - i%8)
		}
		add(15, true, bits)
	}
	if len(c.Permitted)+len(c.Excluded) > 0 {
		type tree struct{ Name asn1.RawValue }
		trees := func(names []api.Name) []tree {
			var l []tree
			for _, n := range names {
				b, _ := asn1.Marshal(goName(n))
				l = append(l, tree{asn1.RawValue{Class: 2, Tag: 4, IsCompound: true, Bytes: b}})
			}
			return l
		}
		add(30, true, struct {
			Permitted []tree `asn1:"optional,omitempty,tag:0"`
			Excluded  []tree `asn1:"optional,omitempty,tag:1"`
		}{trees(c.Permitted), trees(c.Excluded)})
	}
	if len(c.Policies) > 0 {
		type policy struct{ Id asn1.ObjectIdentifier }
		var policies []policy
		for _, p := range c.Policies {
			policies = append(policies, policy{goOid(p)})
		}
		add(32, false, policies)
	}
	return l
}

func BenchmarkIssue(b *testing.B) {
	for b.Loop() {
		if _, err := Issue(full(), shortKey()); err != nil {
			b.Fatal(err)
		}
	}
}

func BenchmarkHolds(b *testing.B) {
	c, err := Issue(full(), shortKey())
	k := publicOf(shortKey())
	for b.Loop() {
		if err != nil || Holds(c, k) != nil {
			b.Fatal(err)
		}
	}
}
