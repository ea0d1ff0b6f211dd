package cert

import (
	"bytes"
	"math/big"
	"math/rand"
	"slices"
	"testing"

	"charter/api"
)

// checkDecode holds Split and Decode of bytes against the document's words, and what is made again of what was told
// against the bytes; it tells whether they are split, and whether they are decoded.
func checkDecode(t *testing.T, b []byte) (bool, bool) {
	t.Helper()
	wantBody, wantSig, split := splitOf(b)
	body, sig, err := Split(b)
	c, decodeErr := Decode(b)
	if !split {
		if err != api.ErrForm || body != nil || sig != nil {
			t.Errorf("Split of %x is %x, %x, %v", short(b), short(body), short(sig), err)
		}
		checkError(t, "Holds of what isn't split", Holds(b, api.Public{}), api.ErrForm)
		checkNoSay(t, b, c, decodeErr)
		return false, false
	}
	if err != nil || !bytes.Equal(body, wantBody) || !bytes.Equal(sig, wantSig) {
		t.Errorf("Split of %x is %x, %x, %v, not %x, %x", short(b), short(body), short(sig), err, short(wantBody), short(wantSig))
	}
	if again, err := Encode(body, sig); err != nil || !bytes.Equal(again, b) {
		t.Errorf("%x is encoded again as %x, %v", short(b), short(again), err)
	}
	want, is := sayOf(body)
	if !is {
		checkNoSay(t, b, c, decodeErr)
		return true, false
	}
	if decodeErr != nil || !sameCert(c, want) {
		t.Errorf("Decode of %x is %v, %v, not %v", b, c, decodeErr, want)
	}
	if again, err := Body(c); err != nil || !bytes.Equal(again, body) {
		t.Errorf("what was decoded of %x has the body %x, %v", b, again, err)
	}
	return true, true
}

func checkNoSay(t *testing.T, b []byte, c api.Cert, err error) {
	t.Helper()
	checkError(t, "Decode", err, api.ErrForm)
	if !sameCert(c, api.Cert{}) || c.Serial != nil || c.Issuer != nil || c.Subject != nil || c.Policies != nil {
		t.Errorf("Decode of %x tells %v beside an error", short(b), c)
	}
}

// checkBody checks a certificate of that body likewise, and whether it is one of a say that may be.
func checkBody(t *testing.T, what string, body []byte, is bool) {
	t.Helper()
	split, decoded := checkDecode(t, words.certificate(body, []byte("sign")))
	if !split || decoded != is {
		t.Errorf("%s: by the document's words it is split: %v, decoded: %v", what, split, decoded)
	}
}

// bodyWith is a body with one of its fields put in the place of another; of no bytes it is left out.
func bodyWith(c api.Cert, at int, field []byte) []byte {
	fields := words.fields(c, words.extensions(c)...)
	fields[at] = field
	return element(0x30, fields...)
}

// The fields of a body.
const (
	atVersion = iota
	atSerial
	atKind
	atIssuer
	atSpan
	atSubject
	atKey
	atExtensions
)

// P10.3: bytes that are none, and the document's example.
func TestDecodeOfLittle(t *testing.T) {
	for _, s := range []string{
		"", "30", "00", "30 00", "30 80 00 00", "30 02 30 00", "30 04 30 00 30 00", "05 00", "ff", "31 00", "30 03 02 01 01", "30 06 30 00 30 00 03 00",
		"30 15 30 00 30 0d 06 09 2a864886f70d01010b 05 00 03 02 00 00", "30 14 30 00 30 0d 06 09 2a864886f70d01010b 05 00 03 01 00",
	} {
		if _, decoded := checkDecode(t, unhex(s)); decoded {
			t.Errorf("%s is decoded", s)
		}
	}
	checkDecode(t, nil)
	checkBody(t, "nothing", element(0x30), false)
	checkBody(t, "plain", words.body(plain()), true)
	checkBody(t, "full", words.body(full()), true)
	checkBody(t, "longest", words.body(longest()), true)
}

// P10.3: each field left out, put twice, put behind the next one, and with another mark.
func TestDecodeOfEachField(t *testing.T) {
	for _, c := range []api.Cert{plain(), full()} {
		fields := words.fields(c, words.extensions(c)...)
		for at := range fields {
			is := at == atExtensions
			checkBody(t, "a field left out", element(0x30, slices.Delete(slices.Clone(fields), at, at+1)...), is)
			checkBody(t, "a field twice", element(0x30, slices.Insert(slices.Clone(fields), at, fields[at])...), false)
			if at+1 < len(fields) {
				turned := slices.Clone(fields)
				turned[at], turned[at+1] = turned[at+1], turned[at]
				checkBody(t, "two fields in another order", element(0x30, turned...), false)
			}
			for mark := range 256 {
				marked := bytes.Clone(fields[at])
				marked[0] = byte(mark)
				checkBody(t, "a field with another mark", bodyWith(c, at, marked), byte(mark) == fields[at][0])
			}
			checkBody(t, "a field of no bytes", bodyWith(c, at, element(fields[at][0])), at == atSubject)
			checkBody(t, "something behind a field", bodyWith(c, at, slices.Concat(fields[at], []byte{0})), false)
			checkBody(t, "a part behind a field", bodyWith(c, at, slices.Concat(fields[at], element(0x05))), false)
		}
		for mark := range 256 {
			body := words.body(c)
			body[0] = byte(mark)
			if split, decoded := checkDecode(t, words.certificate(body, nil)); split != (mark == 0x30) || decoded != split {
				t.Errorf("a body's mark may be %02x: %v", mark, split)
			}
		}
	}
}

// P10.3: versions, serials and kinds.
func TestDecodeOfVersionSerialAndKind(t *testing.T) {
	c := full()
	for s, is := range map[string]bool{
		"a0 03 02 01 02": true, "a0 03 02 01 00": false, "a0 03 02 01 01": false, "a0 03 02 01 03": false,
		"a0 04 02 02 00 02": false, "a0 02 02 00": false, "a0 03 0a 01 02": false,
		"a0 03 02 01 ff": false, "a0 06 02 01 02 02 01 02": false, "a1 03 02 01 02": false, "80 01 02": false, "a0 81 03 02 01 02": false, "02 01 02": false,
	} {
		checkBody(t, "version "+s, bodyWith(c, atVersion, unhex(s)), is)
	}
	for s, is := range map[string]bool{
		"02 01 01": true, "02 01 7f": true, "02 02 00 80": true, "02 02 00 7f": false, "02 01 80": false,
		"02 01 ff": false, "02 01 00": false, "02 00": false, "02 02 01 00": true, "02 81 01 01": false,
		"02 14 7f ff ff ff ff ff ff ff ff ff ff ff ff ff ff ff ff ff ff ff": true, "02 15 00 80 00 00 00 00 00 00 00 00 00 00 00 00 00 00 00 00 00 00 00": false,
		"02 15 7f ff ff ff ff ff ff ff ff ff ff ff ff ff ff ff ff ff ff ff ff": false,
		"02 14 00 80 00 00 00 00 00 00 00 00 00 00 00 00 00 00 00 00 00 00":    true, "0a 01 01": false,
		"02 14 80 00 00 00 00 00 00 00 00 00 00 00 00 00 00 00 00 00 00 00": false,
	} {
		checkBody(t, "serial "+s, bodyWith(c, atSerial, unhex(s)), is)
	}
	checkBody(t, "a serial that is too long to be reckoned with", bodyWith(c, atSerial, element(0x02, bytes.Repeat([]byte{1}, 300))), false)
	checkBody(t, "a serial that is as long as may be read", bodyWith(c, atSerial, element(0x02, bytes.Repeat([]byte{1}, 256))), false)
	for _, k := range otherKinds() {
		checkBody(t, "another sign's kind", bodyWith(c, atKind, k), false)
		checkBody(t, "another key's kind", bodyWith(c, atKey, element(0x30, k, words.bits(keyBytes(c)))), bytes.Equal(k, words.kind(1)))
	}
}

// otherKinds aren't the sign's, and but for the first one not the key's.
func otherKinds() [][]byte {
	kind := element(0x06, oid(1, 2, 840, 113549, 1, 1, 11))
	keyKind := element(0x06, oid(1, 2, 840, 113549, 1, 1, 1))
	null := element(0x05)
	return [][]byte{
		words.kind(1), words.kind(5), words.kind(12), words.kind(10), element(0x30), element(0x30, kind),
		element(0x30, keyKind), element(0x30, null), element(0x30, null, kind), element(0x30, null, keyKind),
		element(0x30, kind, null, null), element(0x30, keyKind, null, null), element(0x30, kind, kind, null),
		element(0x30, kind, element(0x05, []byte{0})), element(0x30, keyKind, element(0x05, []byte{0})),
		element(0x31, kind, null), element(0x31, keyKind, null), element(0x30, element(0x04, kind[2:]), null),
		element(0x30, element(0x04, keyKind[2:]), null), element(0x30, kind, element(0x30)),
		element(0x30, keyKind, element(0x30)),
		element(0x30, kind, null, []byte{0}), element(0x30, keyKind, null, []byte{0}),
		element(0x30, element(0x06), null), element(0x30, element(0x06, kind[2:], []byte{1}), null),
		element(0x30, element(0x06, keyKind[2:], []byte{1}), null),
	}
}

func keyBytes(c api.Cert) []byte {
	return element(0x30, words.number(bigOf(c.Key.N)), words.number(bigOf(c.Key.E)))
}

// P10.3: names that may be and such as may not, as issuer, as subject and as one that others are within.
func TestDecodeOfNames(t *testing.T) {
	attr := func(text string) []byte {
		return element(0x30, element(0x06, oid(2, 5, 4, 3)), element(0x0c, []byte(text)))
	}
	a, b := attr("a"), attr("b")
	for s, is := range map[string]bool{
		string(element(0x30, element(0x31, a))):                           true,
		string(element(0x30, element(0x31, a, b))):                        true,
		string(element(0x30, element(0x31, a), element(0x31, a))):         true,
		string(element(0x30, element(0x31, b, a))):                        false,
		string(element(0x30, element(0x31))):                              false,
		string(element(0x30, element(0x31, a), []byte{0})):                false,
		string(element(0x30, a)):                                          false,
		string(element(0x30, element(0x31, attr("")))):                    false,
		string(element(0x30, element(0x31, attr("\xff")))):                false,
		string(element(0x31, element(0x31, a))):                           false,
		string(element(0x30, bytes.Repeat(element(0x31, a), 9))):          false,
		string(element(0x30, slices.Concat(element(0x31, a, b), a))):      false,
		string(slices.Concat(element(0x30, element(0x31, a)), []byte{0})): false,
	} {
		checkBody(t, "an issuer", bodyWith(full(), atIssuer, []byte(s)), is)
		checkBody(t, "a subject", bodyWith(full(), atSubject, []byte(s)), is)
		for _, mark := range []byte{0xa0, 0xa1} {
			said := element(0x30, element(mark, element(0x30, element(0xa4, []byte(s)))))
			checkBody(t, "one that others are within", element(0x30, words.fields(full(), words.extension(30, true, said))...), is)
		}
	}
	checkBody(t, "an issuer of no steps", bodyWith(full(), atIssuer, element(0x30)), false)
	checkBody(t, "a subject of no steps", bodyWith(full(), atSubject, element(0x30)), true)
}

// P10.3: moments, their marks and their order.
func TestDecodeOfSpans(t *testing.T) {
	of := func(mark byte, body string) []byte { return element(mark, []byte(body)) }
	first, last := of(0x17, "260101000000Z"), of(0x18, "20500101000000Z")
	for _, x := range []struct {
		span []byte
		is   bool
	}{
		{slices.Concat(first, last), true}, {slices.Concat(first, first), true}, {slices.Concat(last, first), false},
		{first, false}, {nil, false}, {slices.Concat(first, last, last), false},
		{slices.Concat(first, first, []byte{0}), false},
		{slices.Concat(first, of(0x17, "260101000001Z")), true},
		{slices.Concat(first, of(0x17, "251231235959Z")), false},
		{slices.Concat(first, of(0x17, "500101000000Z")), false},
		{slices.Concat(of(0x17, "500101000000Z"), first), true},
		{slices.Concat(first, of(0x18, "20260101000000Z")), false},
		{slices.Concat(of(0x18, "20260101000000Z"), last), false},
		{slices.Concat(first, of(0x18, "20491231235959Z")), false},
		{slices.Concat(of(0x18, "19491231235959Z"), last), true},
		{slices.Concat(of(0x18, "19500101000000Z"), last), false},
		{slices.Concat(first, of(0x17, "20500101000000Z")), false},
		{slices.Concat(first, of(0x18, "99991231235959Z")), true},
		{slices.Concat(of(0x18, "00010101000000Z"), last), true},
		{slices.Concat(of(0x18, "00000101000000Z"), last), false},
		{slices.Concat(first, of(0x17, "260230000000Z")), false},
		{slices.Concat(first, of(0x17, "2601010000Z")), false},
		{slices.Concat(first, of(0x17, "260101000000+0000")), false},
		{slices.Concat(first, of(0x17, "260101000000z")), false},
		{slices.Concat(first, of(0x18, "20500101000000.5Z")), false},
		{slices.Concat(first, of(0x0c, "270101000000Z")), false},
		{slices.Concat(first, of(0x37, "270101000000Z")), false}, {slices.Concat(first, of(0x17, "")), false},
		{slices.Concat(first, of(0x18, "")), false},
	} {
		checkBody(t, string(x.span), bodyWith(full(), atSpan, element(0x30, x.span)), x.is)
	}
}

// P10.3: keys' bytes, and the bits about them.
func TestDecodeOfKeys(t *testing.T) {
	c := full()
	n, e := words.number(bigOf(c.Key.N)), words.number(bigOf(c.Key.E))
	key := func(parts ...[]byte) []byte {
		return bodyWith(c, atKey, element(0x30, words.kind(1), words.bits(element(0x30, parts...))))
	}
	checkBody(t, "a key", key(n, e), true)
	for what, parts := range map[string][][]byte{
		"nothing": nil, "N alone": {n}, "E ahead": {e, n}, "N twice": {n, n}, "three numbers": {n, e, e},
		"a byte behind": {n, e, {0}}, "a part behind": {n, e, element(0x05)},
		"N with a byte too much": {element(0x02, []byte{0}, n[2:]), e},
		"E with a byte too much": {n, unhex("02 04 00 01 00 01")}, "E of 1": {n, unhex("02 01 01")},
		"E of 2": {n, unhex("02 01 02")}, "E below 0": {n, unhex("02 01 83")},
		"N even":  {words.number(new(big.Int).Sub(bigOf(c.Key.N), big.NewInt(1))), e},
		"N short": {words.number(bigOf(power256(61, -1))), e}, "N long": {words.number(bigOf(power256(128, 1))), e},
		"N below 0":      {element(0x02, n[3:]), e},
		"N far too long": {words.number(bigOf(power256(300, 1))), e},
		"E above N":      {n, words.number(bigOf(power256(64, 1)))},
		"E far too long": {n, words.number(bigOf(power256(300, 1)))}, "E of no bytes": {n, element(0x02)},
	} {
		checkBody(t, what, key(parts...), false)
	}
	for _, x := range []struct {
		n, e api.Nat
		is   bool
	}{{power256(61, 1), api.Nat{3}, true}, {power256(128, -1), power256(128, -3), true}, {power256(61, 1), power256(61, 1), false}, {power256(61, 0), api.Nat{3}, false}} {
		checkBody(t, "a key at an edge", key(words.number(bigOf(x.n)), words.number(bigOf(x.e))), x.is)
	}
	inner := keyBytes(c)
	for what, field := range map[string][]byte{
		"no bits": element(0x30, words.kind(1)), "no kind": element(0x30, words.bits(inner)),
		"bits of no bytes":          element(0x30, words.kind(1), words.bits(nil)),
		"bits without a byte ahead": element(0x30, words.kind(1), element(0x03)),
		"bytes for bits":            element(0x30, words.kind(1), element(0x04, []byte{0}, inner)),
		"bits twice":                element(0x30, words.kind(1), words.bits(inner), words.bits(inner)),
		"a byte behind the key":     element(0x30, words.kind(1), words.bits(append(inner, 0))),
		"a key twice":               element(0x30, words.kind(1), words.bits(slices.Concat(inner, inner))),
		"a byte of the key missing": element(0x30, words.kind(1), words.bits(inner[:len(inner)-1])),
		"another whole":             element(0x30, words.kind(1), words.bits(element(0x31, inner[2:]))),
		"eight unused bits":         element(0x30, words.kind(1), element(0x03, []byte{8}, inner)),
		"something behind":          element(0x30, words.kind(1), words.bits(inner), element(0x05)),
		"kind behind":               element(0x30, words.bits(inner), words.kind(1)),
	} {
		checkBody(t, what, bodyWith(c, atKey, field), false)
	}
	// E ends in a bit of 0 here only if it is even; one unused bit needs that.
	even := element(0x30, n, unhex("02 03 01 00 00"))
	for unused := range byte(9) {
		checkBody(t, "unused bits", bodyWith(c, atKey, element(0x30, words.kind(1), element(0x03, []byte{unused}, even))), false)
	}
}

// P10.3: the extensions in each order, each number of times.
func TestDecodeOfEachOrderOfExtensions(t *testing.T) {
	l := words.extensions(full())
	l = append(l, nil)
	for n := range 5 * 5 * 5 * 5 * 5 {
		of := []int{n % 5, n / 5 % 5, n / 25 % 5, n / 125 % 5, n / 625}
		var all [][]byte
		rising, last := true, -1
		for _, i := range of {
			if i < 4 {
				rising = rising && i > last
				last = i
			}
			all = append(all, l[i])
		}
		checkBody(t, "extensions in some order", element(0x30, words.fields(plain(), all...)...), rising)
	}
}

// P10.3: what stands about extensions.
func TestDecodeOfAboutExtensions(t *testing.T) {
	c := full()
	l := words.extensions(c)
	all := element(0x30, l...)
	for what, field := range map[string][]byte{
		"none": element(0xa3), "a list of none": element(0xa3, element(0x30)), "two lists": element(0xa3, all, all),
		"no list": element(0xa3, l...), "a set": element(0xa3, element(0x31, l...)),
		"another mark": element(0xa4, all), "a part": element(0x83, all),
		"a byte behind":                   element(0xa3, all, []byte{0}),
		"a byte behind them":              element(0xa3, element(0x30, slices.Concat(l...), []byte{0})),
		"twice":                           slices.Concat(element(0xa3, all), element(0xa3, all)),
		"something of another kind ahead": slices.Concat(element(0xa1, []byte{0}), element(0xa3, all)),
		"a whole more":                    element(0xa3, element(0x30, slices.Concat(l...), element(0x30))),
		"a part more":                     element(0xa3, element(0x30, slices.Concat(l...), element(0x05))),
	} {
		checkBody(t, what, bodyWith(c, atExtensions, field), false)
	}
	for _, last := range []uint32{14, 16, 17, 18, 31, 35, 37, 54, 0} {
		for _, grave := range []bool{false, true} {
			other := words.extension(last, grave, element(0x04, []byte{1}))
			checkBody(t, "one of another kind", element(0x30, words.fields(plain(), other)...), false)
			checkBody(t, "one of another kind behind", element(0x30, words.fields(plain(), append(words.extensions(c), other)...)...), false)
			checkBody(t, "one of another kind ahead", element(0x30, words.fields(plain(), append([][]byte{other}, l...)...)...), false)
		}
	}
}

// P10.3: each extension, laid out in ways that it isn't.
func TestDecodeOfOneExtension(t *testing.T) {
	for i, last := range []uint32{19, 15, 30, 32} {
		whole := words.extensions(full())[i]
		var kind, said []byte
		if !fit(func() {
			parts := wholeOf(0x30, whole)
			kind, said = parts[0], parts[len(parts)-1]
		}) {
			t.Fatal("an extension isn't read")
		}
		grave := last != 32
		yes := words.yes()
		check := func(what string, is bool, parts ...[]byte) {
			t.Helper()
			checkBody(t, what, element(0x30, words.fields(plain(), element(0x30, parts...))...), is)
		}
		check("grave", grave, kind, yes, said)
		check("not grave", !grave, kind, said)
		for v := range 256 {
			check("some yes", grave && v == 255, kind, element(0x01, []byte{byte(v)}), said)
		}
		check("yes of no bytes", false, kind, element(0x01), said)
		check("yes of two bytes", false, kind, element(0x01, []byte{0xff, 0xff}), said)
		check("yes twice", false, kind, yes, yes, said)
		check("yes behind", false, kind, said, yes)
		check("yes ahead", false, yes, kind, said)
		check("kind alone", false, kind)
		check("kind and yes alone", false, kind, yes)
		check("nothing", false)
		check("said alone", false, said)
		check("said twice", false, kind, yes, said, said)
		check("a part behind", false, kind, yes, said, element(0x05))
		check("a byte behind", false, kind, yes, said, []byte{0})
		ahead := [][]byte{kind}
		if grave {
			ahead = append(ahead, yes)
		}
		var inner []byte
		fit(func() { inner = bodyOf(0x04, said) })
		with := func(what string, is bool, said ...[]byte) {
			t.Helper()
			check(what, is, append(slices.Clone(ahead), element(0x04, said...))...)
		}
		with("what is said", true, inner)
		with("nothing is said", false)
		with("it is said twice", false, inner, inner)
		with("a byte more is said", false, inner, []byte{0})
		with("a byte less is said", false, inner[:len(inner)-1])
		with("a whole of nothing is said", false, element(0x30))
		with("bits of nothing are said", false, element(0x03, []byte{0}))
		with("something is said ahead", false, element(0x05), inner)
		for mark := range 256 {
			check("said with another mark", mark == 0x04, append(slices.Clone(ahead), element(byte(mark), inner))...)
			marked := bytes.Clone(inner)
			marked[0] = byte(mark)
			with("what is said with another mark", byte(mark) == inner[0], marked)
		}
		check("the other kind of words", false, append(slices.Clone(ahead), element(0x24, element(0x04, inner)))...)
	}
}

// P10.3: what the extensions may say, and what not.
func TestDecodeOfWhatIsSaid(t *testing.T) {
	yes, tree := words.yes(), func(parts ...[]byte) []byte { return element(0x30, element(0xa4, parts...)) }
	policy := func(l ...uint32) []byte { return element(0x30, element(0x06, oid(l...))) }
	root := words.name(named("a"))
	for _, x := range []struct {
		what string
		last uint32
		is   bool
		said []byte
	}{
		{"an authority", 19, true, element(0x30, yes)}, {"none", 19, false, element(0x30)},
		{"none, told so", 19, false, element(0x30, unhex("01 01 00"))},
		{"another yes", 19, false, element(0x30, unhex("01 01 01"))},
		{"a depth alone", 19, false, element(0x30, unhex("02 01 03"))},
		{"a depth of 0", 19, true, element(0x30, yes, unhex("02 01 00"))},
		{"a depth of 8", 19, true, element(0x30, yes, unhex("02 01 08"))},
		{"a depth of 9", 19, false, element(0x30, yes, unhex("02 01 09"))},
		{"any depth, told so", 19, false, element(0x30, yes, unhex("02 01 ff"))},
		{"a depth below", 19, false, element(0x30, yes, unhex("02 01 fe"))},
		{"a long depth", 19, false, element(0x30, yes, unhex("02 02 00 03"))},
		{"a depth of no bytes", 19, false, element(0x30, yes, unhex("02 00"))},
		{"a great depth", 19, false, element(0x30, yes, unhex("02 05 01 00 00 00 03"))},
		{"a depth too great", 19, false, element(0x30, yes, unhex("02 09 01 00 00 00 00 00 00 00 03"))},
		{"two depths", 19, false, element(0x30, yes, unhex("02 01 03 02 01 03"))},
		{"a depth of another mark", 19, false, element(0x30, yes, unhex("0a 01 03"))},
		{"a depth ahead", 19, false, element(0x30, unhex("02 01 03"), yes)},
		{"a depth of none", 19, false, element(0x30, unhex("01 01 00 02 01 03"))},

		{"a use", 15, true, unhex("03 02 07 80")}, {"a use in too many bits", 15, false, unhex("03 02 06 80")},
		{"a use in all bits", 15, false, unhex("03 02 00 80")},
		{"a use in bits of 0", 15, false, unhex("03 02 07 00")}, {"no use in no bits", 15, false, unhex("03 01 00")},
		{"all of them", 15, true, unhex("03 03 07 ff 80")}, {"a tenth one", 15, false, unhex("03 03 06 ff c0")},
		{"the tenth one", 15, false, unhex("03 03 06 00 40")}, {"the ninth one", 15, true, unhex("03 03 07 00 80")},
		{"a seventeenth one", 15, false, unhex("03 04 07 00 00 80")},
		{"one in two bytes", 15, false, unhex("03 03 00 80 00")},
		{"one in two bytes, nearly", 15, false, unhex("03 03 07 80 00")},
		{"bits that aren't unused", 15, false, unhex("03 02 07 c0")},
		{"eight unused bits", 15, false, unhex("03 02 08 80")}, {"no bytes", 15, false, unhex("03 00")},
		{"seven unused bits of none", 15, false, unhex("03 01 07")},
		{"a far one", 15, false, element(0x03, []byte{0}, make([]byte, 7), []byte{1})},
		{"one farther", 15, false, element(0x03, []byte{0, 0x80}, make([]byte, 300), []byte{1})},
		{"one farther than a number has", 15, false, element(0x03, []byte{7, 0x80}, make([]byte, 9), []byte{0x80})},
		{"a number", 15, false, unhex("02 01 05")},

		{"one permitted", 30, true, element(0x30, element(0xa0, tree(root)))},
		{"one excluded", 30, true, element(0x30, element(0xa1, tree(root)))},
		{"both", 30, true, element(0x30, element(0xa0, tree(root)), element(0xa1, tree(root)))},
		{"both, turned", 30, false, element(0x30, element(0xa1, tree(root)), element(0xa0, tree(root)))},
		{"permitted twice", 30, false, element(0x30, element(0xa0, tree(root)), element(0xa0, tree(root)))},
		{"neither", 30, false, element(0x30)}, {"none permitted", 30, false, element(0x30, element(0xa0))},
		{"none permitted, one excluded", 30, false, element(0x30, element(0xa0), element(0xa1, tree(root)))},
		{"one permitted, none excluded", 30, false, element(0x30, element(0xa0, tree(root)), element(0xa1))},
		{"four permitted", 30, true, element(0x30, element(0xa0, slices.Repeat(tree(root), 4)))},
		{"five permitted", 30, false, element(0x30, element(0xa0, slices.Repeat(tree(root), 5)))},
		{"four excluded", 30, true, element(0x30, element(0xa1, slices.Repeat(tree(root), 4)))},
		{"five excluded", 30, false, element(0x30, element(0xa1, slices.Repeat(tree(root), 5)))},
		{"many permitted", 30, false, element(0x30, element(0xa0, slices.Repeat(tree(element(0x30)), 5000)))},
		{"something else", 30, false, element(0x30, element(0xa2, tree(root)))},
		{"something else behind", 30, false, element(0x30, element(0xa0, tree(root)), element(0xa2, tree(root)))},
		{"no name", 30, false, element(0x30, element(0xa0, tree()))},
		{"two names in one", 30, false, element(0x30, element(0xa0, tree(root, root)))},
		{"a name of another kind", 30, false, element(0x30, element(0xa0, element(0x30, element(0x82, []byte("a.b")))))},
		{"a name without its mark", 30, false, element(0x30, element(0xa0, element(0x30, root)))},
		{"a name with a least depth", 30, false, element(0x30, element(0xa0, element(0x30, element(0xa4, root), unhex("80 01 00"))))},
		{"a tree of nothing", 30, false, element(0x30, element(0xa0, element(0x30)))},
		{"any name", 30, true, element(0x30, element(0xa0, tree(element(0x30))))},
		{"a tree of another mark", 30, false, element(0x30, element(0xa0, element(0x31, element(0xa4, root))))},
		{"two in one tree", 30, false, element(0x30, element(0xa0, element(0x30, element(0xa4, root), element(0xa4, root))))},

		{"a policy", 32, true, element(0x30, policy(1, 2))}, {"no policy", 32, false, element(0x30)},
		{"four policies", 32, true, element(0x30, policy(1, 2), policy(1, 3), policy(1, 4), policy(1, 2, 3))},
		{"five policies", 32, false, element(0x30, policy(1, 2), policy(1, 3), policy(1, 4), policy(1, 2, 3), policy(1, 5))},
		{"a policy twice", 32, false, element(0x30, policy(1, 2), policy(1, 3), policy(1, 2))},
		{"a policy of nothing", 32, false, element(0x30, element(0x30))},
		{"a policy with something behind", 32, false, element(0x30, element(0x30, element(0x06, oid(1, 2)), element(0x30)))},
		{"a policy without its whole", 32, false, element(0x30, element(0x06, oid(1, 2)))},
		{"a policy that is no identifier", 32, false, element(0x30, element(0x30, element(0x06)))},
		{"one cut off", 32, false, element(0x30, element(0x30, unhex("06 02 2a 80")))},
		{"one with a group too much", 32, false, element(0x30, element(0x30, unhex("06 03 2a 80 01")))},
		{"one too long", 32, false, element(0x30, element(0x30, element(0x06, bytes.Repeat([]byte{1}, 16))))},
		{"the longest one", 32, true, element(0x30, element(0x30, element(0x06, bytes.Repeat([]byte{1}, 15))))},
		{"any policy", 32, true, element(0x30, policy(2, 5, 29, 32, 0))},
		{"two in one", 32, false, element(0x30, element(0x30, element(0x06, oid(1, 2)), element(0x06, oid(1, 3))))},
		{"many policies", 32, false, element(0x30, bytes.Repeat(policy(1, 2), 5000))},
	} {
		extension := words.extension(x.last, x.last != 32, x.said)
		checkBody(t, x.what, element(0x30, words.fields(plain(), extension)...), x.is)
		for _, other := range words.extensions(full())[:1] {
			if x.last != 19 {
				checkBody(t, x.what+", of an authority", element(0x30, words.fields(plain(), other, extension)...), x.is)
			}
		}
	}
}

// P10.3, P10.6: certificates with each byte turned to each other one, each byte left out, and each byte put in.
func TestEachByteTurned(t *testing.T) {
	small := plain()
	small.Key = publicOf(shortestKey())
	counts := map[[2]bool]int{}
	for _, c := range []api.Cert{small, changed(full(), func(c *api.Cert) { c.Key = small.Key })} {
		b := words.certificate(words.body(c), []byte{7, 8})
		if _, decoded := checkDecode(t, b); !decoded {
			t.Fatal("a certificate isn't decoded")
		}
		for at := range len(b) {
			for v := range 256 {
				turned := bytes.Clone(b)
				turned[at] = byte(v)
				split, decoded := checkDecode(t, turned)
				counts[[2]bool{split, decoded}]++
			}
			if split, _ := checkDecode(t, b[:at]); split {
				t.Errorf("%x is split without what is behind %d", b, at)
			}
			checkDecode(t, slices.Delete(bytes.Clone(b), at, at+1))
			for _, v := range []byte{0, 1, 2, 0x30, 0x80, 0x81, 0x82, 0xff, b[at]} {
				checkDecode(t, slices.Insert(bytes.Clone(b), at, v))
			}
		}
		// With a byte more it is none.
		for v := range 256 {
			if split, _ := checkDecode(t, append(bytes.Clone(b), byte(v))); split {
				t.Errorf("%x is split with %02x behind it", b, v)
			}
			if split, _ := checkDecode(t, append([]byte{byte(v)}, b...)); split {
				t.Errorf("%x is split with %02x ahead of it", b, v)
			}
		}
	}
	if len(counts) != 3 || slices.Min([]int{counts[[2]bool{false, false}], counts[[2]bool{true, false}], counts[[2]bool{true, true}]}) < 1000 {
		t.Errorf("of those with bytes turned %v are split, and decoded", counts)
	}
}

// faulty lays out as the document says, but with some fault now and then.
func faulty(r *rand.Rand, rate int) layout {
	return layout{func(mark byte, parts ...[]byte) []byte {
		switch r.Intn(rate) {
		case 0:
			mark ^= 1 << r.Intn(8)
		case 1:
			parts = append(slices.Clone(parts), []byte{byte(r.Intn(256))})
		case 2:
			parts = append(slices.Clone(parts), element(mark))
		case 3:
			parts = slices.Concat(parts, parts)
		case 4:
			parts = slices.Clone(parts)
			slices.Reverse(parts)
		case 5:
			parts = nil
		case 6:
			parts = parts[:len(parts)/2]
		}
		b := element(mark, parts...)
		if r.Intn(rate) == 0 {
			b[r.Intn(len(b))] ^= 1 << r.Intn(8)
		}
		return b
	}}
}

// P10.3, P10.6: certificates of all kinds, and such as are nearly ones.
func TestDecodeOfNearlyCertificates(t *testing.T) {
	r := draws()
	counts := map[[2]bool]int{}
	for range 20000 {
		c := drawnSay(r)
		if len(c.Policies) > 4 || len(c.Permitted)+len(c.Excluded) > 8 {
			continue
		}
		l := faulty(r, pick(r, []int{40, 200, 1000}))
		body := l.body(c)
		split, decoded := checkDecode(t, l.certificate(body, randomBytes(r, r.Intn(9))))
		counts[[2]bool{split, decoded}]++
		_, decoded = checkDecode(t, words.certificate(body, nil))
		counts[[2]bool{true, decoded}]++
	}
	if len(counts) != 3 || slices.Min([]int{counts[[2]bool{false, false}], counts[[2]bool{true, false}], counts[[2]bool{true, true}]}) < 1000 {
		t.Errorf("%v are split, and decoded", counts)
	}
}

// P10.3, P10.6, P1: any bytes.
func FuzzDecode(f *testing.F) {
	for _, c := range []api.Cert{plain(), full()} {
		f.Add(words.certificate(words.body(c), []byte("sign")))
		f.Add(words.body(c))
	}
	f.Fuzz(func(t *testing.T, b []byte) {
		checkDecode(t, b)
		checkDecode(t, words.certificate(b[:min(len(b), 60000)], []byte("sign")))
	})
}

func BenchmarkDecode(b *testing.B) {
	c := words.certificate(words.body(full()), make([]byte, 64))
	for b.Loop() {
		if _, err := Decode(c); err != nil {
			b.Fatal(err)
		}
	}
}
