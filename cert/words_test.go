package cert

import (
	"bytes"
	"encoding/hex"
	"errors"
	"fmt"
	"math/big"
	"math/rand"
	"slices"
	"strings"
	"testing"
	"time"

	"charter/api"
	"charter/name"
)

// The tests' own draws: the same at each run.
func draws() *rand.Rand { return rand.New(rand.NewSource(10)) }

func pick[T any](r *rand.Rand, l []T) T { return l[r.Intn(len(l))] }

func randomBytes(r *rand.Rand, n int) []byte {
	b := make([]byte, n)
	r.Read(b)
	return b
}

func unhex(s string) []byte {
	b, err := hex.DecodeString(strings.ReplaceAll(s, " ", ""))
	if err != nil {
		panic(err)
	}
	return b
}

func short(b []byte) []byte { return b[:min(len(b), 400)] }

// checkError checks that just that error is told, at no place.
func checkError(t *testing.T, call string, err, want error) {
	t.Helper()
	if err != want {
		t.Errorf("%s is %v, not %v", call, err, want)
	}
	var spot *api.Spot
	if errors.As(err, &spot) {
		t.Errorf("%s: the error is at a place", call)
	}
}

// bigOf is a number as Go's own.
func bigOf(a api.Nat) *big.Int {
	out := new(big.Int)
	for i := len(a) - 1; i >= 0; i-- {
		out.Lsh(out, 32)
		out.Add(out, new(big.Int).SetUint64(uint64(a[i])))
	}
	return out
}

// natOf is Go's own as a number.
func natOf(b *big.Int) api.Nat {
	out := api.Nat{}
	limb := big.NewInt(1 << 32)
	for rest := new(big.Int).Set(b); rest.Sign() > 0; rest.Rsh(rest, 32) {
		out = append(out, uint32(new(big.Int).Mod(rest, limb).Uint64()))
	}
	return out
}

func natOfHex(s string) api.Nat { return natOf(new(big.Int).SetBytes(unhex(s))) }

// power256 is 256 to the power of n, and so much more or less.
func power256(n int, more int64) api.Nat {
	out := new(big.Int).Lsh(big.NewInt(1), uint(8*n))
	return natOf(out.Add(out, big.NewInt(more)))
}

// element is one by the words of layer 7, of what its body has.
func element(mark byte, parts ...[]byte) []byte {
	body := slices.Concat(parts...)
	head := []byte{mark, byte(len(body))}
	switch n := len(body); {
	case n > 255:
		head = []byte{mark, 0x82, byte(n / 256), byte(n % 256)}
	case n > 127:
		head = []byte{mark, 0x81, byte(n)}
	}
	return append(head, body...)
}

// oidOf is an identifier's body by the words of layer 8; false, if it is none.
func oidOf(l ...uint32) ([]byte, bool) {
	if len(l) < 2 || len(l) > 16 || l[0] > 2 || l[0] < 2 && l[1] >= 40 || l[0] == 2 && uint64(l[1]) > 1<<32-81 {
		return nil, false
	}
	var body []byte
	for i, n := range l[1:] {
		if i == 0 {
			n += 40 * l[0]
		}
		groups := []byte{byte(n % 128)}
		for n /= 128; n > 0; n /= 128 {
			groups = append([]byte{byte(n%128 + 128)}, groups...)
		}
		body = append(body, groups...)
	}
	return body, true
}

func oid(l ...uint32) []byte {
	body, _ := oidOf(l...)
	return body
}

func timeMay(t api.Time) bool {
	at := time.Date(t.Year, time.Month(t.Month), t.Day, t.Hour, t.Minute, t.Second, 0, time.UTC)
	return t.Year >= 1 && t.Year <= 9999 && t == api.Time{Year: at.Year(), Month: int(at.Month()), Day: at.Day(), Hour: at.Hour(), Minute: at.Minute(), Second: at.Second()}
}

func ahead(a, b api.Time) bool {
	return slices.Compare([]int{a.Year, a.Month, a.Day, a.Hour, a.Minute, a.Second}, []int{b.Year, b.Month, b.Day, b.Hour, b.Minute, b.Second}) < 0
}

// numberBody is a number's by the words of layer 8.
func numberBody(n *big.Int) []byte {
	b := n.Bytes()
	if len(b) == 0 || b[0] >= 128 {
		return append([]byte{0}, b...)
	}
	return b
}

func keyMay(k api.Public) bool {
	n, e := bigOf(k.N), bigOf(k.E)
	size := (n.BitLen() + 7) / 8
	return n.Bit(0) == 1 && size >= 62 && size <= 128 && e.Bit(0) == 1 && e.Cmp(big.NewInt(3)) >= 0 && e.Cmp(n) < 0
}

func namesMayBe(l []api.Name) bool {
	return len(l) <= 4 && !slices.ContainsFunc(l, func(n api.Name) bool { return name.Check(n) != nil })
}

// mayBe tells by the document's words whether a say may be.
func mayBe(c api.Cert) bool {
	serial := bigOf(c.Serial)
	if serial.Sign() < 1 || len(numberBody(serial)) > 20 {
		return false
	}
	if len(c.Issuer) < 1 || name.Check(c.Issuer) != nil || name.Check(c.Subject) != nil {
		return false
	}
	if !timeMay(c.From) || !timeMay(c.To) || ahead(c.To, c.From) || !keyMay(c.Key) {
		return false
	}
	if c.Depth < -1 || c.Depth > 8 || !c.Authority && c.Depth != -1 || c.Uses < 0 || c.Uses > 511 {
		return false
	}
	if !namesMayBe(c.Permitted) || !namesMayBe(c.Excluded) || len(c.Policies) > 4 {
		return false
	}
	for i, a := range c.Policies {
		if _, is := oidOf(a...); !is {
			return false
		}
		for _, b := range c.Policies[i+1:] {
			if slices.Equal(a, b) {
				return false
			}
		}
	}
	return true
}

// layout lays out a certificate by the document's words; its elements are made by a means of its own, so that one can be
// made with faults.
type layout struct {
	element func(mark byte, parts ...[]byte) []byte
}

func (l layout) number(n *big.Int) []byte { return l.element(0x02, numberBody(n)) }

func (l layout) kind(last uint32) []byte {
	return l.element(0x30, l.element(0x06, oid(1, 2, 840, 113549, 1, 1, last)), l.element(0x05))
}

func (l layout) bits(b []byte) []byte { return l.element(0x03, []byte{0}, b) }

func (l layout) time(t api.Time) []byte {
	year, mark := fmt.Sprintf("%04d", t.Year), byte(0x18)
	if t.Year >= 1950 && t.Year <= 2049 {
		year, mark = year[2:], 0x17
	}
	return l.element(mark, []byte(year+fmt.Sprintf("%02d%02d%02d%02d%02dZ", t.Month, t.Day, t.Hour, t.Minute, t.Second)))
}

func (l layout) name(n api.Name) []byte {
	b, err := name.Write(n)
	if err != nil {
		panic(err)
	}
	return b
}

func (l layout) yes() []byte { return l.element(0x01, []byte{0xff}) }

func (l layout) extension(last uint32, grave bool, said []byte) []byte {
	parts := [][]byte{l.element(0x06, oid(2, 5, 29, last))}
	if grave {
		parts = append(parts, l.yes())
	}
	return l.element(0x30, append(parts, l.element(0x04, said))...)
}

func (l layout) authority(c api.Cert) []byte {
	parts := [][]byte{l.yes()}
	if c.Depth != -1 {
		parts = append(parts, l.number(big.NewInt(int64(c.Depth))))
	}
	return l.extension(19, true, l.element(0x30, parts...))
}

func (l layout) uses(uses int) []byte {
	var all []byte
	unused := 0
	for i := 8; i >= 0; i-- {
		if uses>>i&1 == 1 && all == nil {
			all = make([]byte, i/8+1)
			unused = 7 - i%8
		}
		if uses>>i&1 == 1 {
			all[i/8] |= 0x80 >> (i % 8)
		}
	}
	return l.extension(15, true, l.element(0x03, []byte{byte(unused)}, all))
}

func (l layout) within(mark byte, names []api.Name) []byte {
	var all [][]byte
	for _, n := range names {
		all = append(all, l.element(0x30, l.element(0xa4, l.name(n))))
	}
	if len(all) == 0 {
		return nil
	}
	return l.element(mark, all...)
}

func (l layout) policies(policies [][]uint32) []byte {
	var all [][]byte
	for _, p := range policies {
		all = append(all, l.element(0x30, l.element(0x06, oid(p...))))
	}
	return l.extension(32, false, l.element(0x30, all...))
}

// extensions are those of a say, each in its place; nil, where there is none.
func (l layout) extensions(c api.Cert) [][]byte {
	all := make([][]byte, 4)
	if c.Authority {
		all[0] = l.authority(c)
	}
	if c.Uses != 0 {
		all[1] = l.uses(c.Uses)
	}
	if len(c.Permitted)+len(c.Excluded) > 0 {
		all[2] = l.extension(30, true, l.element(0x30, l.within(0xa0, c.Permitted), l.within(0xa1, c.Excluded)))
	}
	if len(c.Policies) > 0 {
		all[3] = l.policies(c.Policies)
	}
	return all
}

// fields are the elements of a body, the extensions as they are handed in.
func (l layout) fields(c api.Cert, extensions ...[]byte) [][]byte {
	fields := [][]byte{
		l.element(0xa0, l.number(big.NewInt(2))),
		l.number(bigOf(c.Serial)),
		l.kind(11),
		l.name(c.Issuer),
		l.element(0x30, l.time(c.From), l.time(c.To)),
		l.name(c.Subject),
		l.element(0x30, l.kind(1), l.bits(l.element(0x30, l.number(bigOf(c.Key.N)), l.number(bigOf(c.Key.E))))),
	}
	if len(slices.Concat(extensions...)) > 0 {
		fields = append(fields, l.element(0xa3, l.element(0x30, extensions...)))
	}
	return fields
}

func (l layout) body(c api.Cert) []byte {
	return l.element(0x30, l.fields(c, l.extensions(c)...)...)
}

func (l layout) certificate(body, sig []byte) []byte {
	return l.element(0x30, body, l.kind(11), l.bits(sig))
}

// words lays out without faults.
var words = layout{element}

// unfit is what reading by the document's words stops with, where bytes aren't what they should be.
type unfit struct{}

func need(is bool) {
	if !is {
		panic(unfit{})
	}
}

// fit tells whether reading came to an end.
func fit(read func()) (is bool) {
	defer func() {
		if x := recover(); x != nil && x != (unfit{}) {
			panic(x)
		}
	}()
	read()
	return true
}

// elementsOf are the elements that bytes are, one behind the other.
func elementsOf(b []byte) [][]byte {
	var l [][]byte
	for len(b) > 0 {
		need(len(b) >= 2 && b[0]&0x1f != 0x1f)
		ahead, n := 2, int(b[1])
		switch {
		case n == 0x81:
			need(len(b) > 2 && b[2] > 127)
			ahead, n = 3, int(b[2])
		case n == 0x82:
			need(len(b) > 3 && b[2] > 0)
			ahead, n = 4, 256*int(b[2])+int(b[3])
		}
		need(n < 128 || ahead > 2)
		need(len(b) >= ahead+n)
		l = append(l, b[:ahead+n])
		b = b[ahead+n:]
	}
	return l
}

// bodyOf is that of the one element of that mark that bytes are.
func bodyOf(mark byte, b []byte) []byte {
	l := elementsOf(b)
	need(len(l) == 1 && l[0][0] == mark)
	switch b[1] {
	case 0x81:
		return b[3:]
	case 0x82:
		return b[4:]
	}
	return b[2:]
}

// wholeOf are the elements of the one whole of that mark that bytes are.
func wholeOf(mark byte, b []byte) [][]byte { return elementsOf(bodyOf(mark, b)) }

func numberOf(b []byte) *big.Int {
	body := bodyOf(0x02, b)
	need(len(body) > 0 && bytes.Equal(numberBody(new(big.Int).SetBytes(body)), body))
	return new(big.Int).SetBytes(body)
}

// bytesOf are those of bits of which none is unused.
func bytesOf(b []byte) []byte {
	body := bodyOf(0x03, b)
	need(len(body) > 0 && body[0] == 0)
	return body[1:]
}

func timeOf(b []byte) api.Time {
	var t api.Time
	digits := "%04d%02d%02d%02d%02d%02dZ"
	body := string(b[2:])
	if b[0] == 0x17 && len(body) == 13 {
		century := "20"
		if body[0] >= '5' {
			century = "19"
		}
		body = century + body
	}
	fmt.Sscanf(body, digits, &t.Year, &t.Month, &t.Day, &t.Hour, &t.Minute, &t.Second)
	need(timeMay(t) && bytes.Equal(words.time(t), b))
	return t
}

func nameOf(b []byte) api.Name {
	n, err := name.Read(b)
	need(err == nil)
	return n
}

func usesIn(said []byte) int {
	body := bodyOf(0x03, said)
	need(len(body) == 2 || len(body) == 3)
	need(body[0] < 8 && body[len(body)-1]<<(7-body[0]) == 0x80)
	uses := 0
	for i := range 8 * (len(body) - 1) {
		if body[1+i/8]&(0x80>>(i%8)) != 0 {
			uses |= 1 << i
		}
	}
	return uses
}

func policiesIn(said []byte) [][]uint32 {
	var l [][]uint32
	for _, policy := range wholeOf(0x30, said) {
		parts := wholeOf(0x30, policy)
		need(len(parts) == 1)
		body := bodyOf(0x06, parts[0])
		need(len(body) > 0)
		var arcs []uint32
		n := uint64(0)
		for _, b := range body {
			n = n<<7 | uint64(b&0x7f)
			need(n < 1<<32)
			if b < 128 {
				if arcs == nil {
					arcs = append(arcs, uint32(min(n/40, 2)))
					n -= 40 * uint64(arcs[0])
				}
				arcs = append(arcs, uint32(n))
				n = 0
			}
		}
		again, is := oidOf(arcs...)
		need(is && bytes.Equal(again, body))
		l = append(l, arcs)
	}
	need(len(l) > 0)
	return l
}

func namesIn(c *api.Cert, said []byte) {
	l := wholeOf(0x30, said)
	read := func(mark byte) []api.Name {
		if len(l) == 0 || l[0][0] != mark {
			return nil
		}
		var names []api.Name
		for _, tree := range wholeOf(mark, l[0]) {
			base := wholeOf(0x30, tree)
			need(len(base) == 1)
			names = append(names, nameOf(bodyOf(0xa4, base[0])))
		}
		need(len(names) > 0)
		l = l[1:]
		return names
	}
	c.Permitted = read(0xa0)
	c.Excluded = read(0xa1)
	need(len(l) == 0 && len(c.Permitted)+len(c.Excluded) > 0)
}

func extensionsIn(c *api.Cert, field []byte) {
	all := wholeOf(0xa3, field)
	need(len(all) == 1)
	l := wholeOf(0x30, all[0])
	need(len(l) > 0)
	said := func(last uint32, grave bool) ([]byte, bool) {
		if len(l) == 0 {
			return nil, false
		}
		parts := wholeOf(0x30, l[0])
		need(len(parts) > 0)
		if !bytes.Equal(parts[0], element(0x06, oid(2, 5, 29, last))) {
			return nil, false
		}
		l = l[1:]
		if grave {
			need(len(parts) == 3 && bytes.Equal(parts[1], words.yes()))
		} else {
			need(len(parts) == 2)
		}
		return bodyOf(0x04, parts[len(parts)-1]), true
	}
	if b, is := said(19, true); is {
		parts := wholeOf(0x30, b)
		need(len(parts) == 1 || len(parts) == 2)
		need(bytes.Equal(parts[0], words.yes()))
		c.Authority = true
		if len(parts) == 2 {
			depth := numberOf(parts[1])
			need(depth.IsInt64() && depth.Int64() <= 8)
			c.Depth = int(depth.Int64())
		}
	}
	if b, is := said(15, true); is {
		c.Uses = usesIn(b)
	}
	if b, is := said(30, true); is {
		namesIn(c, b)
	}
	if b, is := said(32, false); is {
		c.Policies = policiesIn(b)
	}
	need(len(l) == 0)
}

// sayOf is the say that a body is of, by the document's words; false, if it is none's.
func sayOf(body []byte) (api.Cert, bool) {
	c := api.Cert{Depth: -1}
	is := fit(func() {
		l := wholeOf(0x30, body)
		need(len(l) == 7 || len(l) == 8)
		need(bytes.Equal(l[0], unhex("a0 03 02 01 02")) && bytes.Equal(l[2], words.kind(11)))
		c.Serial = natOf(numberOf(l[1]))
		c.Issuer, c.Subject = nameOf(l[3]), nameOf(l[5])
		times := wholeOf(0x30, l[4])
		need(len(times) == 2)
		c.From, c.To = timeOf(times[0]), timeOf(times[1])
		key := wholeOf(0x30, l[6])
		need(len(key) == 2 && bytes.Equal(key[0], words.kind(1)))
		numbers := wholeOf(0x30, bytesOf(key[1]))
		need(len(numbers) == 2)
		c.Key = api.Public{N: natOf(numberOf(numbers[0])), E: natOf(numberOf(numbers[1]))}
		if len(l) == 8 {
			extensionsIn(&c, l[7])
		}
		need(mayBe(c))
	})
	return c, is
}

// splitOf is a certificate's body and signature by the document's words; false, if it is none.
func splitOf(b []byte) ([]byte, []byte, bool) {
	var body, sig []byte
	is := fit(func() {
		l := wholeOf(0x30, b)
		need(len(l) == 3 && l[0][0] == 0x30 && bytes.Equal(l[1], words.kind(11)))
		body, sig = l[0], bytesOf(l[2])
	})
	return body, sig, is
}
