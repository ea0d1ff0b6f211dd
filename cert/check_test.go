package cert

import (
	"bytes"
	"fmt"
	"math"
	"math/big"
	"math/rand"
	"slices"
	"strings"
	"testing"
	"time"

	"charter/api"
)

// Keys that OpenSSL made, of 64 and 128 bytes, and one of the shortest, all with secrets.
func shortKey() api.Secret {
	return secretOf("dde0cb3e7bd52422a08ab06a06bd3aaf11868f2911174379490971818becba69", "c99b32151c704d13252440d060ba02905289f566e63ed77fd5e236c85f1f47d5", 65537)
}

func longKey() api.Secret {
	return secretOf("e704b633fa8281b0eedd8a14696045585a394af68e52fe193955c3e8a74bedd3f41adeb254c85a053b256d148f80aca05bbc6deb3c7f731a2fbd550d281083e1",
		"ce37203bf6bd35dc34e0e5f04d1e2038678bcc37aadb8c917f127efe19cda44497a6d6b71171d8b2cf802159303aca312983657af5e4952bccec7022fb79f0b9", 65537)
}

func shortestKey() api.Secret {
	return secretOf("c0000000000000000000000000000000000000000007d7c822eb6353c6d721", "c0000000000000000000000000000000000000000017875868c229fb548841", 3)
}

func secretOf(p, q string, e int64) api.Secret {
	one := big.NewInt(1)
	a, b := new(big.Int).SetBytes(unhex(p)), new(big.Int).SetBytes(unhex(q))
	round := new(big.Int).Mul(new(big.Int).Sub(a, one), new(big.Int).Sub(b, one))
	d := new(big.Int).ModInverse(big.NewInt(e), round)
	return api.Secret{N: natOf(new(big.Int).Mul(a, b)), E: natOf(big.NewInt(e)), D: natOf(d)}
}

func publicOf(s api.Secret) api.Public { return api.Public{N: s.N, E: s.E} }

// named is a name of steps of one attribute each, of those texts.
func named(texts ...string) api.Name {
	var n api.Name
	for _, text := range texts {
		n = append(n, []api.Attr{{Type: []uint32{2, 5, 4, 3}, Mark: 0x0c, Text: []byte(text)}})
	}
	return n
}

func sameName(a, b api.Name) bool {
	return slices.EqualFunc(a, b, func(x, y []api.Attr) bool {
		return slices.EqualFunc(x, y, func(v, w api.Attr) bool {
			return slices.Equal(v.Type, w.Type) && v.Mark == w.Mark && bytes.Equal(v.Text, w.Text)
		})
	})
}

// sameCert tells whether two says are the same, each number by just the same limbs.
func sameCert(a, b api.Cert) bool {
	return slices.Equal(a.Serial, b.Serial) && sameName(a.Issuer, b.Issuer) && sameName(a.Subject, b.Subject) &&
		a.From == b.From && a.To == b.To && slices.Equal(a.Key.N, b.Key.N) && slices.Equal(a.Key.E, b.Key.E) &&
		a.Authority == b.Authority && a.Depth == b.Depth && a.Uses == b.Uses &&
		slices.EqualFunc(a.Permitted, b.Permitted, sameName) && slices.EqualFunc(a.Excluded, b.Excluded, sameName) &&
		slices.EqualFunc(a.Policies, b.Policies, slices.Equal)
}

// counted is a say whose numbers have no limbs of 0 at their end.
func counted(c api.Cert) api.Cert {
	c.Serial = natOf(bigOf(c.Serial))
	c.Key = api.Public{N: natOf(bigOf(c.Key.N)), E: natOf(bigOf(c.Key.E))}
	return c
}

// plain is a say without extensions.
func plain() api.Cert {
	return api.Cert{
		Serial: api.Nat{1}, Issuer: named("Root"), Subject: named("a"), Key: publicOf(shortKey()), Depth: -1,
		From: api.Time{Year: 2026, Month: 1, Day: 2, Hour: 3, Minute: 4, Second: 5}, To: api.Time{Year: 2049, Month: 12, Day: 31, Hour: 23, Minute: 59, Second: 59},
	}
}

// full is a say with all of the extensions.
func full() api.Cert {
	c := plain()
	c.Authority, c.Depth, c.Uses = true, 3, api.UseCert|api.UseCrl
	c.Permitted, c.Excluded = []api.Name{named("a"), named("b", "c")}, []api.Name{named("a", "x")}
	c.Policies = [][]uint32{{1, 2, 3, 4}, {2, 999, 7}}
	return c
}

// changed is a say with something changed.
func changed(c api.Cert, change func(*api.Cert)) api.Cert {
	change(&c)
	return c
}

// checkSay holds Check and Body of a say against the document's words, and what is decoded of its body against it; it
// tells whether it may be.
func checkSay(t *testing.T, c api.Cert) bool {
	t.Helper()
	got, err := Body(c)
	if !mayBe(c) {
		checkError(t, "Check", Check(c), api.ErrArg)
		checkError(t, "Body", err, api.ErrArg)
		if got != nil {
			t.Errorf("Body tells %x beside an error", short(got))
		}
		return false
	}
	checkError(t, "Check", Check(c), nil)
	if want := words.body(c); err != nil || !bytes.Equal(got, want) {
		t.Errorf("Body of %v is %x, %v, not %x", c, got, err, want)
	}
	decoded, err := Decode(words.certificate(got, []byte("sign")))
	if err != nil || !sameCert(decoded, counted(c)) {
		t.Errorf("%v is decoded as %v, %v", c, decoded, err)
	}
	return true
}

// checkMay checks a say likewise, and whether it may be, too.
func checkMay(t *testing.T, what string, c api.Cert, may bool) {
	t.Helper()
	if got := checkSay(t, c); got != may {
		t.Errorf("%s: by the document's words the say may be: %v", what, got)
	}
}

// P10.1: the document's example, and one of each thing that is missing.
func TestCheckOfLittle(t *testing.T) {
	checkError(t, "Check of nothing", Check(api.Cert{}), api.ErrArg)
	got, err := Body(api.Cert{})
	checkError(t, "Body of nothing", err, api.ErrArg)
	if got != nil {
		t.Errorf("Body of nothing is %x", got)
	}
	for what, c := range map[string]api.Cert{
		"no serial":  changed(full(), func(c *api.Cert) { c.Serial = nil }),
		"no issuer":  changed(full(), func(c *api.Cert) { c.Issuer = nil }),
		"no From":    changed(full(), func(c *api.Cert) { c.From = api.Time{} }),
		"no To":      changed(full(), func(c *api.Cert) { c.To = api.Time{} }),
		"no key":     changed(full(), func(c *api.Cert) { c.Key = api.Public{} }),
		"no N":       changed(full(), func(c *api.Cert) { c.Key.N = nil }),
		"no E":       changed(full(), func(c *api.Cert) { c.Key.E = nil }),
		"depth of 0": changed(plain(), func(c *api.Cert) { c.Depth = 0 }),
	} {
		checkMay(t, what, c, false)
	}
	for what, c := range map[string]api.Cert{
		"plain":        plain(),
		"full":         full(),
		"no subject":   changed(full(), func(c *api.Cert) { c.Subject = nil }),
		"none named":   changed(full(), func(c *api.Cert) { c.Permitted, c.Excluded = nil, []api.Name{} }),
		"no policies":  changed(full(), func(c *api.Cert) { c.Policies = [][]uint32{} }),
		"no uses":      changed(full(), func(c *api.Cert) { c.Uses = 0 }),
		"no authority": changed(full(), func(c *api.Cert) { c.Authority, c.Depth = false, -1 }),
		"own issuer":   changed(full(), func(c *api.Cert) { c.Subject = c.Issuer }),
	} {
		checkMay(t, what, c, true)
	}
}

// P10.1: bodies that are written out.
func TestBodyOfLittle(t *testing.T) {
	key := "30 5c 30 0d 06 09 2a864886f70d010101 05 00 03 4b 00 30 48 02 41 00" +
		"aebc021751d81f1cd07219eda0b0d42dd5e9d2a6c96eea0149b5e682b12e39cfb16cdd239e78cec62af20df1dcdd7c11f53d48219b64485562e8f1779d61385d 02 03 010001"
	ahead := "a0 03 02 01 02 02 01 01 30 0d 06 09 2a864886f70d01010b 05 00" +
		"30 0f 31 0d 30 0b 06 03 550403 0c 04 526f6f74" +
		"30 1e 17 0d 3236303130323033303430355a 17 0d 3439313233313233353935395a" +
		"30 0c 31 0a 30 08 06 03 550403 0c 01 61" + key
	for extensions, c := range map[string]api.Cert{
		"": plain(),
		"a3 12 30 10 30 0e 06 03 551d0f 01 01 ff 04 04 03 02 07 80":                   changed(plain(), func(c *api.Cert) { c.Uses = api.UseSign }),
		"a3 12 30 10 30 0e 06 03 551d0f 01 01 ff 04 04 03 02 05 a0":                   changed(plain(), func(c *api.Cert) { c.Uses = api.UseSign | api.UseHide }),
		"a3 12 30 10 30 0e 06 03 551d0f 01 01 ff 04 04 03 02 01 06":                   changed(plain(), func(c *api.Cert) { c.Uses = api.UseCert | api.UseCrl }),
		"a3 12 30 10 30 0e 06 03 551d0f 01 01 ff 04 04 03 02 00 ff":                   changed(plain(), func(c *api.Cert) { c.Uses = 255 }),
		"a3 13 30 11 30 0f 06 03 551d0f 01 01 ff 04 05 03 03 07 0080":                 changed(plain(), func(c *api.Cert) { c.Uses = 256 }),
		"a3 13 30 11 30 0f 06 03 551d0f 01 01 ff 04 05 03 03 07 ff80":                 changed(plain(), func(c *api.Cert) { c.Uses = 511 }),
		"a3 13 30 11 30 0f 06 03 551d13 01 01 ff 04 05 30 03 01 01 ff":                changed(plain(), func(c *api.Cert) { c.Authority = true }),
		"a3 16 30 14 30 12 06 03 551d13 01 01 ff 04 08 30 06 01 01 ff 02 01 00":       changed(plain(), func(c *api.Cert) { c.Authority, c.Depth = true, 0 }),
		"a3 16 30 14 30 12 06 03 551d13 01 01 ff 04 08 30 06 01 01 ff 02 01 08":       changed(plain(), func(c *api.Cert) { c.Authority, c.Depth = true, 8 }),
		"a3 18 30 16 30 14 06 03 551d1e 01 01 ff 04 0a 30 08 a0 06 30 04 a4 02 30 00": changed(plain(), func(c *api.Cert) { c.Permitted = []api.Name{nil} }),
		"a3 18 30 16 30 14 06 03 551d1e 01 01 ff 04 0a 30 08 a1 06 30 04 a4 02 30 00": changed(plain(), func(c *api.Cert) { c.Excluded = []api.Name{{}} }),
		"a3 13 30 11 30 0f 06 03 551d20 04 08 30 06 30 04 06 02 2a03":                 changed(plain(), func(c *api.Cert) { c.Policies = [][]uint32{{1, 2, 3}} }),
		"a3 18 30 16 30 14 06 03 551d20 04 0d 30 0b 30 04 06 02 2a03 30 03 06 01 2a":  changed(plain(), func(c *api.Cert) { c.Policies = [][]uint32{{1, 2, 3}, {1, 2}} }),
		"a3 18 30 16 30 14 06 03 551d20 04 0d 30 0b 30 03 06 01 2a 30 04 06 02 2a03":  changed(plain(), func(c *api.Cert) { c.Policies = [][]uint32{{1, 2}, {1, 2, 3}} }),
	} {
		want := element(0x30, unhex(ahead), unhex(extensions))
		if got, err := Body(c); err != nil || !bytes.Equal(got, want) {
			t.Errorf("Body is %x, %v, not %x", got, err, want)
		}
		checkMay(t, extensions, c, true)
	}
}

// P10.1: serials about each edge, with limbs of 0 at their end, too.
func TestEachSerial(t *testing.T) {
	highest := append(power256(19, 0), 0)
	highest[len(highest)-2] <<= 7
	for _, of := range []struct {
		serial api.Nat
		may    bool
	}{
		{nil, false}, {api.Nat{}, false}, {api.Nat{0}, false}, {make(api.Nat, 100), false}, {api.Nat{1}, true}, {api.Nat{127}, true}, {api.Nat{128}, true},
		{api.Nat{255}, true}, {api.Nat{256}, true}, {api.Nat{math.MaxUint32}, true}, {api.Nat{0, 1}, true}, {power256(19, -1), true}, {power256(19, 0), true},
		{natOf(new(big.Int).Sub(bigOf(highest), big.NewInt(1))), true}, {highest, false}, {power256(20, -1), false}, {power256(20, 0), false},
		{power256(256, -1), false}, {power256(256, 0), false}, {make(api.Nat, 1<<20), false},
	} {
		for _, more := range []int{0, 1, 70} {
			serial := slices.Concat(of.serial, make(api.Nat, more))
			checkMay(t, fmt.Sprintf("serial %x", of.serial[:min(len(of.serial), 9)]), changed(full(), func(c *api.Cert) { c.Serial = serial }), of.may)
		}
	}
}

// badNames are names that may not be.
func badNames() []api.Name {
	long := named("a", "b", "c", "d", "e", "f", "g", "h", "i")
	return []api.Name{
		named(""), named("a", ""), named("\xff"), named(strings.Repeat("a", 65)), long, {{}}, {nil, named("a")[0]},
		{{{Type: []uint32{2}, Mark: 0x0c, Text: []byte("a")}}}, {{{Type: []uint32{2, 5}, Mark: 0x16, Text: []byte("a")}}},
		make(api.Name, 1<<20),
	}
}

// P10.1: names of each kind, at each place; that of no step may be all but an issuer.
func TestEachName(t *testing.T) {
	places := map[string]func(c *api.Cert, n api.Name){
		"issuer":    func(c *api.Cert, n api.Name) { c.Issuer = n },
		"subject":   func(c *api.Cert, n api.Name) { c.Subject = n },
		"permitted": func(c *api.Cert, n api.Name) { c.Permitted = []api.Name{named("a"), n} },
		"excluded":  func(c *api.Cert, n api.Name) { c.Excluded = []api.Name{n, named("a")} },
	}
	for what, put := range places {
		for _, n := range badNames() {
			checkMay(t, what, changed(full(), func(c *api.Cert) { put(c, n) }), false)
		}
		for _, n := range []api.Name{named("b"), named("a", "a"), longestName()} {
			checkMay(t, what, changed(full(), func(c *api.Cert) { put(c, n) }), true)
		}
		for _, n := range []api.Name{nil, {}} {
			checkMay(t, what, changed(full(), func(c *api.Cert) { put(c, n) }), what != "issuer")
		}
	}
}

// P10.1: lists of names of each length; the same one may stand there twice.
func TestEachNumberOfNames(t *testing.T) {
	for permitted := range 8 {
		for excluded := range 8 {
			c := changed(full(), func(c *api.Cert) {
				c.Permitted, c.Excluded = slices.Repeat([]api.Name{named("a")}, permitted), slices.Repeat([]api.Name{named("b"), nil}, excluded)[:excluded]
			})
			checkMay(t, "names", c, permitted <= 4 && excluded <= 4)
		}
	}
	for place := range 4 {
		for _, n := range badNames()[:8] {
			l := []api.Name{named("a"), named("b"), named("c"), named("d")}
			l[place] = n
			checkMay(t, "permitted", changed(full(), func(c *api.Cert) { c.Permitted = l }), false)
			checkMay(t, "excluded", changed(full(), func(c *api.Cert) { c.Excluded = l }), false)
		}
	}
	checkMay(t, "permitted", changed(full(), func(c *api.Cert) { c.Permitted = make([]api.Name, 1<<20) }), false)
	checkMay(t, "excluded", changed(full(), func(c *api.Cert) { c.Excluded = make([]api.Name, 1<<20) }), false)
}

// moments are some about each edge.
func moments() []api.Time {
	return []api.Time{
		{Year: 1, Month: 1, Day: 1}, {Year: 1949, Month: 12, Day: 31, Hour: 23, Minute: 59, Second: 59},
		{Year: 1950, Month: 1, Day: 1}, {Year: 2000, Month: 2, Day: 29},
		{Year: 2026, Month: 11, Day: 20, Hour: 13, Minute: 14, Second: 15},
		{Year: 2026, Month: 11, Day: 20, Hour: 13, Minute: 14, Second: 16},
		{Year: 2026, Month: 11, Day: 20, Hour: 13, Minute: 15},
		{Year: 2026, Month: 11, Day: 20, Hour: 14}, {Year: 2026, Month: 11, Day: 21}, {Year: 2026, Month: 12, Day: 1}, {Year: 2027, Month: 1, Day: 1},
		{Year: 2049, Month: 12, Day: 31, Hour: 23, Minute: 59, Second: 59}, {Year: 2050, Month: 1, Day: 1},
		{Year: 9999, Month: 12, Day: 31, Hour: 23, Minute: 59, Second: 59},
	}
}

// P10.1: each moment ahead of and behind each other one; the same one may be both.
func TestEachSpan(t *testing.T) {
	for i, from := range moments() {
		for j, to := range moments() {
			checkMay(t, "span", changed(plain(), func(c *api.Cert) { c.From, c.To = from, to }), i <= j)
		}
		for _, none := range []api.Time{
			{}, {Year: 0, Month: 1, Day: 1}, {Year: -1, Month: 1, Day: 1}, {Year: 10000, Month: 1, Day: 1},
			{Year: 2100, Month: 2, Day: 29}, {Year: 2026, Month: 0, Day: 1}, {Year: 2026, Month: 13, Day: 1},
			{Year: 2026, Month: 4, Day: 31},
			{Year: 2026, Month: 4}, {Year: 2026, Month: 4, Day: 1, Hour: 24}, {Year: 2026, Month: 4, Day: 1, Minute: 60},
			{Year: 2026, Month: 4, Day: 1, Second: 60}, {Year: 2026, Month: 4, Day: 1, Second: -1},
			{Year: math.MaxInt, Month: math.MaxInt, Day: math.MaxInt, Hour: math.MaxInt, Minute: math.MaxInt, Second: math.MaxInt},
			{Year: math.MinInt, Month: 1, Day: 1},
		} {
			checkMay(t, "no From", changed(plain(), func(c *api.Cert) { c.From, c.To = none, from }), false)
			checkMay(t, "no To", changed(plain(), func(c *api.Cert) { c.From, c.To = from, none }), false)
			checkMay(t, "no span", changed(plain(), func(c *api.Cert) { c.From, c.To = none, none }), false)
		}
	}
}

// P10.1: keys about each edge.
func TestEachKey(t *testing.T) {
	e := api.Nat{65537}
	for _, of := range []struct {
		n, e api.Nat
		may  bool
	}{
		{power256(61, 1), e, true}, {power256(61, -1), e, false}, {power256(62, -1), e, true},
		{power256(62, 1), e, true}, {power256(128, -1), e, true}, {power256(128, 1), e, false},
		{power256(128, -2), e, false}, {power256(61, 0), e, false}, {power256(256, -1), e, false}, {power256(300, 1), e, false}, {api.Nat{15}, api.Nat{3}, false},
		{power256(61, 1), api.Nat{3}, true}, {power256(61, 1), api.Nat{1}, false},
		{power256(61, 1), api.Nat{2}, false}, {power256(61, 1), api.Nat{4}, false},
		{power256(61, 1), api.Nat{127}, true},
		{power256(61, 1), api.Nat{129}, true}, {power256(61, 3), power256(61, 1), true},
		{power256(61, 1), power256(61, 1), false}, {power256(61, 1), power256(61, 3), false},
		{power256(128, -1), power256(128, -3), true}, {power256(128, -1), power256(300, 1), false},
		{append(power256(61, 1), 0, 0), append(api.Nat{3}, 0, 0, 0), true},
	} {
		checkMay(t, fmt.Sprintf("key of %x and %x", of.n, of.e), changed(full(), func(c *api.Cert) { c.Key = api.Public{N: of.n, E: of.e} }), of.may)
	}
}

// P10.1: each depth, of an authority and of none.
func TestEachDepth(t *testing.T) {
	depths := []int{math.MinInt, math.MaxInt, math.MinInt32, math.MaxInt32, 1 << 32, 1<<32 - 1, 127, 128, 256}
	for depth := -5; depth < 20; depth++ {
		depths = append(depths, depth)
	}
	for _, depth := range depths {
		checkMay(t, "an authority", changed(plain(), func(c *api.Cert) { c.Authority, c.Depth = true, depth }), depth >= -1 && depth <= 8)
		checkMay(t, "no authority", changed(plain(), func(c *api.Cert) { c.Depth = depth }), depth == -1)
	}
}

// P10.1: all of the uses.
func TestAllUses(t *testing.T) {
	for uses := range 512 {
		checkMay(t, "uses", changed(plain(), func(c *api.Cert) { c.Uses = uses }), true)
		checkMay(t, "uses of all else", changed(full(), func(c *api.Cert) { c.Uses = uses }), true)
	}
	for _, uses := range []int{-1, -2, -511, -512, 512, 513, 1023, 1 << 15, 1 << 16, 1<<16 + 1, 1 << 32, math.MinInt, math.MaxInt} {
		checkMay(t, "uses", changed(full(), func(c *api.Cert) { c.Uses = uses }), false)
	}
}

// P10.1: policies of each number, such as are none, and such as stand there twice.
func TestEachPolicy(t *testing.T) {
	with := func(policies ...[]uint32) api.Cert {
		return changed(full(), func(c *api.Cert) { c.Policies = policies })
	}
	l := [][]uint32{{1, 2}, {1, 2, 3}, {2, 1<<32 - 81}, slices.Repeat([]uint32{2}, 16), {0, 39}, {0, 0}}
	for n := range len(l) + 1 {
		checkMay(t, "policies", with(l[:n]...), n <= 4)
	}
	for i, a := range l {
		for j, b := range l {
			checkMay(t, "two policies", with(a, b), i != j)
			checkMay(t, "two policies about another", with(a, []uint32{1, 1}, b), i != j)
			checkMay(t, "two policies behind others", with([]uint32{1, 1}, []uint32{1, 0}, a, b), i != j)
		}
	}
	for _, none := range [][]uint32{nil, {}, {1}, {3, 1}, {0, 40}, {1, 40}, {1, math.MaxUint32}, {2, 1<<32 - 80}, slices.Repeat([]uint32{2}, 17), make([]uint32, 1<<20)} {
		checkMay(t, "no policy", with(none), false)
		checkMay(t, "no policy behind one", with(l[0], none), false)
		checkMay(t, "no policy ahead of one", with(none, l[0]), false)
	}
	checkMay(t, "many policies", with(make([][]uint32, 1<<20)...), false)
}

// longestName is the longest name that may be.
func longestName() api.Name {
	kind := slices.Concat([]uint32{2, 1<<32 - 81}, slices.Repeat([]uint32{math.MaxUint32}, 14))
	var n api.Name
	for range 8 {
		var step []api.Attr
		for _, sign := range []string{"a", "b", "c", "d"} {
			step = append(step, api.Attr{Type: kind, Mark: 0x13, Text: []byte(strings.Repeat(sign, 64))})
		}
		n = append(n, step)
	}
	return n
}

// longest is the longest say that may be.
func longest() api.Cert {
	c := full()
	c.Serial = power256(19, 1)
	c.Issuer, c.Subject = longestName(), longestName()
	c.From, c.To = moments()[0], moments()[len(moments())-1]
	c.Key = api.Public{N: power256(128, -1), E: power256(128, -3)}
	c.Depth, c.Uses = 8, 511
	c.Permitted, c.Excluded = slices.Repeat([]api.Name{longestName()}, 4), slices.Repeat([]api.Name{longestName()}, 4)
	c.Policies = nil
	for i := range uint32(4) {
		c.Policies = append(c.Policies, slices.Concat([]uint32{2, 1<<32 - 81}, slices.Repeat([]uint32{math.MaxUint32}, 13), []uint32{math.MaxUint32 - i}))
	}
	return c
}

// P10.1, P10.3: the longest say isn't too long for any element.
func TestTheLongestSay(t *testing.T) {
	checkMay(t, "the longest say", longest(), true)
	b, err := Issue(longest(), longKey())
	if err != nil {
		t.Fatal(err)
	}
	if got, err := Decode(b); err != nil || !sameCert(got, longest()) {
		t.Errorf("the longest say is decoded as %v, %v", got, err)
	}
	checkError(t, "Holds", Holds(b, publicOf(longKey())), nil)
}

// drawnMoment is one that may be.
func drawnMoment(r *rand.Rand) api.Time {
	if r.Intn(3) == 0 {
		return pick(r, moments())
	}
	at := time.Date(1+r.Intn(9999), 1, 1+r.Intn(366), r.Intn(24), r.Intn(60), r.Intn(60), 0, time.UTC)
	return api.Time{Year: min(at.Year(), 9999), Month: int(at.Month()), Day: at.Day(), Hour: at.Hour(), Minute: at.Minute(), Second: at.Second()}
}

func drawnName(r *rand.Rand) api.Name {
	var n api.Name
	for range 1 + r.Intn(3) {
		a := api.Attr{
			Type: pick(r, [][]uint32{{2, 5, 4, 3}, {2, 5, 4, 6}, {0, 9, 2342, 19200300, 100, 1, 25}}),
			Mark: pick(r, []byte{0x0c, 0x13}),
			Text: []byte(pick(r, []string{"a", "Ab c", " ", "AT", strings.Repeat("x", 64)})),
		}
		n = append(n, []api.Attr{a})
	}
	return n
}

func drawnNumber(r *rand.Rand, bytes int) api.Nat {
	return natOf(new(big.Int).SetBytes(randomBytes(r, 1+r.Intn(bytes))))
}

func drawnList[T any](r *rand.Rand, draw func(*rand.Rand) T) []T {
	var l []T
	for range max(r.Intn(6)-2, 0) {
		l = append(l, draw(r))
	}
	return l
}

// drawnSay is one that mostly may be.
func drawnSay(r *rand.Rand) api.Cert {
	c := api.Cert{Serial: drawnNumber(r, 20), Issuer: drawnName(r), Subject: drawnName(r), From: drawnMoment(r), To: drawnMoment(r), Depth: -1}
	if ahead(c.To, c.From) && r.Intn(20) > 0 {
		c.From, c.To = c.To, c.From
	}
	c.Key = publicOf(pick(r, []api.Secret{shortKey(), longKey(), shortestKey()}))
	if r.Intn(3) == 0 {
		n := randomBytes(r, 62+r.Intn(67))
		n[0], n[len(n)-1] = n[0]|1, n[len(n)-1]|1
		e := randomBytes(r, 1+r.Intn(61))
		e[len(e)-1] |= 3
		c.Key = api.Public{N: natOf(new(big.Int).SetBytes(n)), E: natOf(new(big.Int).SetBytes(e))}
	}
	if r.Intn(2) == 0 {
		c.Authority, c.Depth = true, r.Intn(10)-1
	}
	if r.Intn(2) == 0 {
		c.Uses = r.Intn(512)
	}
	c.Permitted, c.Excluded = drawnList(r, drawnName), drawnList(r, drawnName)
	c.Policies = drawnList(r, func(r *rand.Rand) []uint32 {
		return pick(r, [][]uint32{{1, 2, 3, r.Uint32()}, {2, 999}, {2, 5, 29, 32, 0}, {0, 0, r.Uint32() % 300}})
	})
	if r.Intn(9) == 0 {
		c.Subject = nil
	}
	if r.Intn(20) == 0 {
		c.Issuer = nil
	}
	return c
}

// P10.1, P10.3, P10.6: says of all kinds.
func TestSaysOfAllKinds(t *testing.T) {
	r := draws()
	counts := map[bool]int{}
	for range 5000 {
		counts[checkSay(t, drawnSay(r))]++
	}
	if counts[true] < 2000 || counts[false] < 200 {
		t.Errorf("%d says may be, %d may not", counts[true], counts[false])
	}
}

// P10.6: two says that aren't the same haven't the same body.
func TestEachSayHasABodyOfItsOwn(t *testing.T) {
	says := []api.Cert{plain(), full()}
	for _, change := range []func(*api.Cert){
		func(c *api.Cert) { c.Serial = api.Nat{2} }, func(c *api.Cert) { c.Issuer = named("root") },
		func(c *api.Cert) { c.Subject = named("A") }, func(c *api.Cert) { c.Subject = nil },
		func(c *api.Cert) { c.From.Second++ }, func(c *api.Cert) { c.To.Second-- },
		func(c *api.Cert) { c.Key.E = api.Nat{3} }, func(c *api.Cert) { c.Key.N = publicOf(longKey()).N },
		func(c *api.Cert) { c.Authority, c.Depth = true, 4 }, func(c *api.Cert) { c.Authority, c.Depth = true, -1 },
		func(c *api.Cert) { c.Authority, c.Depth = true, 0 }, func(c *api.Cert) { c.Uses = 1 },
		func(c *api.Cert) { c.Uses = 2 },
		func(c *api.Cert) { c.Permitted = []api.Name{named("x")} },
		func(c *api.Cert) { c.Excluded = []api.Name{named("x")} },
		func(c *api.Cert) { c.Permitted = []api.Name{named("x"), named("y")} },
		func(c *api.Cert) { c.Permitted = []api.Name{named("y"), named("x")} },
		func(c *api.Cert) { c.Policies = [][]uint32{{1, 2}} },
		func(c *api.Cert) { c.Policies = [][]uint32{{1, 2}, {1, 3}} },
		func(c *api.Cert) { c.Policies = [][]uint32{{1, 3}, {1, 2}} },
	} {
		says = append(says, changed(plain(), change), changed(full(), change))
	}
	of := map[string]int{}
	for i, c := range says {
		checkMay(t, "a say", c, true)
		b, _ := Body(c)
		if j, is := of[string(b)]; is && !sameCert(c, says[j]) {
			t.Errorf("%v and %v have one body", c, says[j])
		}
		of[string(b)] = i
	}
}

func BenchmarkBody(b *testing.B) {
	for b.Loop() {
		if _, err := Body(full()); err != nil {
			b.Fatal(err)
		}
	}
}
