package name

import (
	"bytes"
	"crypto/x509/pkix"
	"encoding/asn1"
	"encoding/hex"
	"errors"
	"math"
	"math/rand"
	"slices"
	"strings"
	"testing"
	"unicode/utf8"

	"charter/api"
)

// The tests' own draws: the same at each run.
func draws() *rand.Rand { return rand.New(rand.NewSource(9)) }

func pick[T any](r *rand.Rand, l []T) T { return l[r.Intn(len(l))] }

func unhex(t *testing.T, s string) []byte {
	t.Helper()
	b, err := hex.DecodeString(strings.ReplaceAll(s, " ", ""))
	if err != nil {
		t.Fatal(err)
	}
	return b
}

// checkError checks that just that error is told, at no place.
func checkError(t *testing.T, call string, err, want error) {
	t.Helper()
	if err != want {
		t.Errorf("%s is %v, not %v", call, err, want)
	}
	var spot *api.Spot
	if errors.As(err, &spot) {
		t.Errorf("%s: the error is at a place", call)
	}
}

// element is one by the words of layer 7, of what its body has.
func element(mark byte, parts ...[]byte) []byte {
	body := slices.Concat(parts...)
	head := []byte{mark, byte(len(body))}
	switch n := len(body); {
	case n > 255:
		head = []byte{mark, 0x82, byte(n / 256), byte(n % 256)}
	case n > 127:
		head = []byte{mark, 0x81, byte(n)}
	}
	return append(head, body...)
}

// oidOf is an identifier's body by the words of layer 8; false, if it is none.
func oidOf(l []uint32) ([]byte, bool) {
	if len(l) < 2 || len(l) > 16 || l[0] > 2 || l[0] < 2 && l[1] >= 40 || l[0] == 2 && uint64(l[1]) > 1<<32-81 {
		return nil, false
	}
	var body []byte
	for i, n := range l[1:] {
		if i == 0 {
			n += 40 * l[0]
		}
		groups := []byte{byte(n % 128)}
		for n /= 128; n > 0; n /= 128 {
			groups = append([]byte{byte(n%128 + 128)}, groups...)
		}
		body = append(body, groups...)
	}
	return body, true
}

const printable = "abcdefghijklmnopqrstuvwxyzABCDEFGHIJKLMNOPQRSTUVWXYZ0123456789 '()+,-./:=?"

// wordMayBe tells by the document's words whether an attribute may have that text.
func wordMayBe(mark byte, text []byte) bool {
	if len(text) < 1 || len(text) > 64 {
		return false
	}
	switch mark {
	case 0x0c:
		return utf8.Valid(text)
	case 0x13:
		return !strings.ContainsFunc(string(text), func(r rune) bool { return !strings.ContainsRune(printable, r) })
	}
	return false
}

// attrWanted is an attribute's bytes by the document's words, and whether it may be.
func attrWanted(a api.Attr) ([]byte, bool) {
	oid, is := oidOf(a.Type)
	return element(0x30, element(0x06, oid), element(a.Mark, a.Text)), is && wordMayBe(a.Mark, a.Text)
}

// wanted is a name's bytes by the document's words, and whether it may be.
func wanted(n api.Name) ([]byte, bool) {
	may := len(n) <= 8
	var steps []byte
	for _, step := range n {
		may = may && len(step) >= 1 && len(step) <= 4
		var attrs [][]byte
		for i, a := range step {
			b, attrMay := attrWanted(a)
			may = may && attrMay && (i == 0 || bytes.Compare(attrs[i-1], b) == -1)
			attrs = append(attrs, b)
		}
		steps = append(steps, element(0x31, attrs...)...)
	}
	return element(0x30, steps), may
}

func sameAttr(a, b api.Attr) bool {
	return slices.Equal(a.Type, b.Type) && a.Mark == b.Mark && bytes.Equal(a.Text, b.Text)
}

func sameName(a, b api.Name) bool {
	return slices.EqualFunc(a, b, func(x, y []api.Attr) bool { return slices.EqualFunc(x, y, sameAttr) })
}

// checkName holds Check and Write of a name against the document's words, and what was written against what is read of
// it; it tells whether the name may be.
func checkName(t *testing.T, n api.Name) bool {
	t.Helper()
	want, may := wanted(n)
	got, err := Write(n)
	if !may {
		checkError(t, "Check", Check(n), api.ErrArg)
		checkError(t, "Write", err, api.ErrArg)
		if got != nil {
			t.Errorf("Write tells %x beside an error", got)
		}
		return false
	}
	checkError(t, "Check", Check(n), nil)
	if err != nil || !bytes.Equal(got, want) {
		t.Errorf("Write of %v is %x, %v, not %x", n, got, err, want)
	}
	read, err := Read(got)
	if err != nil || !sameName(read, n) {
		t.Errorf("%v is read as %v, %v", n, read, err)
	}
	return true
}

// checkMay checks a name likewise, and whether it may be, too.
func checkMay(t *testing.T, n api.Name, may bool) {
	t.Helper()
	if got := checkName(t, n); got != may {
		t.Errorf("by the document's words %v may be: %v", n, got)
	}
}

var commonName = []uint32{2, 5, 4, 3}

func word(mark byte, text string) api.Attr {
	return api.Attr{Type: commonName, Mark: mark, Text: []byte(text)}
}

// stepsOf is a name of steps of one attribute each, of those texts.
func stepsOf(texts ...string) api.Name {
	var n api.Name
	for _, text := range texts {
		n = append(n, []api.Attr{word(0x0c, text)})
	}
	return n
}

// inOrder is a step of attributes in the order in which they may stand.
func inOrder(attrs ...api.Attr) []api.Attr {
	slices.SortFunc(attrs, func(a, b api.Attr) int {
		x, _ := attrWanted(a)
		y, _ := attrWanted(b)
		return bytes.Compare(x, y)
	})
	return attrs
}

// P9.1: names that are written out.
func TestWriteOfLittle(t *testing.T) {
	country := api.Attr{Type: []uint32{2, 5, 4, 6}, Mark: 0x13, Text: []byte("AT")}
	for _, of := range []struct {
		n    api.Name
		want string
	}{
		{nil, "30 00"},
		{api.Name{}, "30 00"},
		{stepsOf("a"), "30 0c 31 0a 30 08 06 03 55 04 03 0c 01 61"},
		{stepsOf("a", "a"), "30 18 31 0a 30 08 06 03 55 04 03 0c 01 61 31 0a 30 08 06 03 55 04 03 0c 01 61"},
		{api.Name{{country}, {word(0x13, "Root")}}, "30 1c 31 0b 30 09 06 03 55 04 06 13 02 41 54 31 0d 30 0b 06 03 55 04 03 13 04 52 6f 6f 74"},
		{api.Name{{word(0x0c, "ä"), country}}, "30 18 31 16 30 09 06 03 55 04 03 0c 02 c3 a4 30 09 06 03 55 04 06 13 02 41 54"},
	} {
		got, err := Write(of.n)
		if err != nil || !bytes.Equal(got, unhex(t, of.want)) {
			t.Errorf("Write of %v is %x, %v", of.n, got, err)
		}
		checkMay(t, of.n, true)
	}
}

// P9.1: each mark, with texts that it could have, if it were one of a name's; only two are.
func TestEachMark(t *testing.T) {
	for mark := range 256 {
		for _, text := range []string{"a", "Ab 9", "a@b", "\u00e4", "\x01", ""} {
			checkName(t, api.Name{{word(byte(mark), text)}})
		}
		checkMay(t, api.Name{{word(byte(mark), "a")}}, mark == 0x0c || mark == 0x13)
		checkMay(t, api.Name{{word(byte(mark), "a@b")}}, mark == 0x0c)
	}
}

// P9.1: texts of each length, counted in bytes.
func TestEachLengthOfAText(t *testing.T) {
	for _, sign := range []string{"a", " ", "\x00", "\u00e4", "\u20ac", "\U0010ffff"} {
		for n := range 70 {
			for _, mark := range []byte{0x0c, 0x13} {
				text := strings.Repeat(sign, n)
				may := len(text) >= 1 && len(text) <= 64 && (mark == 0x0c || sign == "a" || sign == " ")
				checkMay(t, api.Name{{word(mark, text)}}, may)
			}
		}
	}
	for _, n := range []int{128, 256, 65535, 65536, 1 << 20} {
		checkMay(t, api.Name{{word(0x0c, strings.Repeat("a", n))}}, false)
	}
	checkMay(t, api.Name{{{Type: commonName, Mark: 0x0c}}}, false)
	checkMay(t, api.Name{{{Type: commonName, Mark: 0x13, Text: []byte{}}}}, false)
}

// P9.1: each byte in a text, alone and between others.
func TestEachByteOfAText(t *testing.T) {
	for b := range 256 {
		for _, mark := range []byte{0x0c, 0x13} {
			may := b < 128 && (mark == 0x0c || strings.IndexByte(printable, byte(b)) >= 0)
			for _, text := range [][]byte{{byte(b)}, {'a', byte(b)}, {byte(b), 'a'}, {'a', byte(b), 'a'}} {
				checkMay(t, api.Name{{{Type: commonName, Mark: mark, Text: text}}}, may)
			}
		}
	}
	for _, text := range []string{"\xc0\x80", "\xc1\xbf", "\xe0\x9f\xbf", "\xed\xa0\x80", "\xed\xbf\xbf", "\xf4\x90\x80\x80", "\xf8\x88\x80\x80\x80", "\xe2\x82", "a\xe2"} {
		checkMay(t, stepsOf(text), false)
	}
	for _, text := range []string{"\xc2\x80", "\xe0\xa0\x80", "\xed\x9f\xbf", "\xee\x80\x80", "\xf4\x8f\xbf\xbf", "\ufeff", "\ufffd"} {
		checkMay(t, stepsOf(text), true)
	}
}

// arcs is an identifier of so many numbers, or what would be one.
func arcs(n int) []uint32 {
	l := []uint32{2, 999, 0, 1, 127, 128, 1 << 14, math.MaxUint32}
	for len(l) < n {
		l = append(l, math.MaxUint32)
	}
	return l[:n]
}

// P9.1: types at the edges of identifiers, and such as are none.
func TestEachType(t *testing.T) {
	of := func(kind []uint32) api.Name {
		return api.Name{{{Type: kind, Mark: 0x0c, Text: []byte("a")}}}
	}
	for n := range 20 {
		checkMay(t, of(arcs(n)), n >= 2 && n <= 16)
	}
	checkMay(t, of(nil), false)
	checkMay(t, of(make([]uint32, 100000)), false)
	for first := range uint32(5) {
		for _, second := range []uint32{0, 1, 38, 39, 40, 41, 47, 48, 127, 128, 1<<32 - 82, 1<<32 - 81, 1<<32 - 80, 1<<32 - 1} {
			may := first < 2 && second < 40 || first == 2 && second <= 1<<32-81
			checkMay(t, of([]uint32{first, second}), may)
			checkMay(t, of([]uint32{first, second, 7}), may)
		}
	}
}

// P9.1: steps of each length, and names of each length; of no attributes a step may not be.
func TestEachLengthOfSteps(t *testing.T) {
	texts := strings.Split("a b c d e f g h i j k l", " ")
	for steps := range len(texts) {
		checkMay(t, stepsOf(texts[:steps]...), steps <= 8)
	}
	for attrs := range len(texts) {
		var step []api.Attr
		for _, text := range texts[:attrs] {
			step = append(step, word(0x0c, text))
		}
		checkMay(t, api.Name{step}, attrs >= 1 && attrs <= 4)
		checkMay(t, api.Name{step, step, step, step, step, step, step, step}, attrs >= 1 && attrs <= 4)
		checkMay(t, api.Name{step, {}}, false)
		checkMay(t, api.Name{nil, step}, false)
	}
	checkMay(t, make(api.Name, 9), false)
	checkMay(t, make(api.Name, 1<<20), false)
	checkMay(t, api.Name{make([]api.Attr, 1<<20)}, false)
}

// P9.1: of all orders of a step's attributes just the rising one may be; its bytes are held against each other, so that
// a longer text stands behind a shorter one, and the mark ahead of the text.
func TestEachOrder(t *testing.T) {
	rising := []api.Attr{
		word(0x0c, "b"), word(0x0c, "c"), word(0x13, "a"), {Type: []uint32{2, 5, 4, 10}, Mark: 0x0c, Text: []byte("a")},
		word(0x0c, "aa"), {Type: []uint32{2, 5, 4, 6}, Mark: 0x13, Text: []byte("AT")}, {Type: []uint32{1, 2, 840}, Mark: 0x0c, Text: []byte("ab")},
		{Type: []uint32{0, 9, 2342, 25}, Mark: 0x0c, Text: []byte("b")},
	}
	rising = inOrder(rising...)
	for i, a := range rising {
		for j, b := range rising {
			checkMay(t, api.Name{{a, b}}, i < j)
			for k, c := range rising {
				checkMay(t, api.Name{{a, b, c}}, i < j && j < k)
				for l, d := range rising {
					checkMay(t, api.Name{{a, b, c, d}}, i < j && j < k && k < l)
				}
			}
		}
	}
	checkMay(t, api.Name{{word(0x0c, "b"), word(0x0c, "aa")}}, true)
	checkMay(t, api.Name{{word(0x0c, "aa"), word(0x0c, "b")}}, false)
	checkMay(t, api.Name{{word(0x0c, "b"), word(0x13, "a")}}, true)
	checkMay(t, api.Name{{word(0x13, "a"), word(0x0c, "b")}}, false)
	checkMay(t, api.Name{{word(0x0c, "A"), word(0x0c, "a")}}, true)
	checkMay(t, api.Name{{word(0x0c, "a"), word(0x0c, "a")}}, false)
}

// P9.1: what may not be at any place of a name, the others as they may be.
func TestAFaultAtEachPlace(t *testing.T) {
	faults := []api.Attr{{}, word(0x16, "a"), word(0x13, "@"), word(0x0c, "\xff"), word(0x0c, ""), word(0x0c, strings.Repeat("z", 65)), {Type: []uint32{2}, Mark: 0x0c, Text: []byte("a")}}
	for place := range 16 {
		for _, fault := range faults {
			var n api.Name
			for range 4 {
				n = append(n, []api.Attr{word(0x0c, "a"), word(0x0c, "b"), word(0x0c, "cc"), word(0x0c, "ddd")})
			}
			checkMay(t, n, true)
			n[place/4][place%4] = fault
			checkMay(t, n, false)
		}
	}
}

// longest is the longest name that may be.
func longest() api.Name {
	kind := slices.Concat([]uint32{2, 1<<32 - 81}, slices.Repeat([]uint32{math.MaxUint32}, 14))
	var n api.Name
	for range 8 {
		var step []api.Attr
		for _, sign := range []string{"a", "b", "c", "d"} {
			step = append(step, api.Attr{Type: kind, Mark: 0x13, Text: []byte(strings.Repeat(sign, 64))})
		}
		n = append(n, step)
	}
	return n
}

// P9.1, P9.5: the longest name.
func TestTheLongestName(t *testing.T) {
	checkMay(t, longest(), true)
	b, err := Write(longest())
	if want := 8*(4*(3+2+75+2+64)+4) + 4; err != nil || len(b) != want {
		t.Errorf("the longest name has %d bytes, %v, not %d", len(b), err, want)
	}
	checkMay(t, append(longest(), longest()[0]), false)
}

// drawnAttr is an attribute that may be, mostly a short one.
func drawnAttr(r *rand.Rand) api.Attr {
	kinds := [][]uint32{commonName, {2, 5, 4, 6}, {2, 5, 4, 10}, {0, 9, 2342, 19200300, 100, 1, 25}, {1, 2, 840, 113549, 1, 9, 1}, {2, 999}, arcs(16)}
	a := api.Attr{Type: slices.Clone(pick(r, kinds)), Mark: pick(r, []byte{0x0c, 0x13})}
	length := 1 + r.Intn(pick(r, []int{1, 3, 16, 64}))
	for len(a.Text) < length {
		sign := string(printable[r.Intn(len(printable))])
		if a.Mark == 0x0c {
			sign = pick(r, []string{sign, "\u00e4", "@", "\u20ac", "\x00", "\U0001f511", "a", "A", " "})
		}
		a.Text = append(a.Text, sign...)
	}
	if len(a.Text) > 64 {
		a.Text = a.Text[:61]
		for !utf8.Valid(a.Text) {
			a.Text = a.Text[:len(a.Text)-1]
		}
	}
	return a
}

// drawnName is a name that may be.
func drawnName(r *rand.Rand) api.Name {
	var n api.Name
	for range r.Intn(pick(r, []int{3, 9})) {
		var step []api.Attr
		for range 1 + r.Intn(pick(r, []int{1, 4})) {
			step = append(step, drawnAttr(r))
		}
		n = append(n, slices.CompactFunc(inOrder(step...), sameAttr))
	}
	return n
}

// goBytes is what Go's own encoding makes of a name.
func goBytes(t *testing.T, n api.Name) []byte {
	t.Helper()
	of := pkix.RDNSequence{}
	for _, step := range n {
		var set pkix.RelativeDistinguishedNameSET
		for _, a := range step {
			kind := make(asn1.ObjectIdentifier, len(a.Type))
			for i, arc := range a.Type {
				kind[i] = int(arc)
			}
			set = append(set, pkix.AttributeTypeAndValue{Type: kind, Value: asn1.RawValue{Tag: int(a.Mark), Bytes: a.Text}})
		}
		of = append(of, set)
	}
	b, err := asn1.Marshal(of)
	if err != nil {
		t.Fatal(err)
	}
	return b
}

// P9.1, P9.5: names of all kinds, and as Go's own encoding tells them.
func TestNamesAsGoTellsThem(t *testing.T) {
	r := draws()
	for range 3000 {
		n := drawnName(r)
		checkMay(t, n, true)
		want := goBytes(t, n)
		if got, err := Write(n); err != nil || !bytes.Equal(got, want) {
			t.Errorf("Write of %v is %x, %v, by Go %x", n, got, err, want)
		}
		if got, err := Read(want); err != nil || !sameName(got, n) {
			t.Errorf("Read of Go's %x is %v, %v", want, got, err)
		}
	}
}

func BenchmarkWriteTheLongest(b *testing.B) {
	n := longest()
	for b.Loop() {
		if _, err := Write(n); err != nil {
			b.Fatal(err)
		}
	}
}
