package cert

import (
	"bytes"
	"math"
	"math/rand"
	"slices"
	"testing"

	"charter/api"
)

// roomy is the same list, with something behind its end, within its capacity.
func roomy[T any](l []T, behind ...T) []T {
	return slices.Concat(l, behind)[: len(l) : len(l)+len(behind)]
}

func roomyNat(a api.Nat) api.Nat { return roomy(a, 7, 8, 9) }

func roomyName(n api.Name) api.Name {
	n = slices.Clone(n)
	for i, step := range n {
		step = slices.Clone(step)
		for j, a := range step {
			step[j] = api.Attr{Type: roomy(a.Type, 7, 8), Mark: a.Mark, Text: roomy(a.Text, ' ', 'X')}
		}
		n[i] = roomy(step, api.Attr{Mark: 1, Type: []uint32{1, 2}})
	}
	return roomy(n, []api.Attr{{Mark: 2}})
}

func roomyNames(l []api.Name) []api.Name {
	l = slices.Clone(l)
	for i, n := range l {
		l[i] = roomyName(n)
	}
	return roomy(l, named("behind"))
}

// roomyCert is a say with memory behind each of its lists, and limbs of 0 at its numbers' ends.
func roomyCert(c api.Cert) api.Cert {
	padded := func(a api.Nat) api.Nat { return roomyNat(append(slices.Clone(a), 0, 0)) }
	c.Serial, c.Key = padded(c.Serial), api.Public{N: padded(c.Key.N), E: padded(c.Key.E)}
	c.Issuer, c.Subject = roomyName(c.Issuer), roomyName(c.Subject)
	c.Permitted, c.Excluded = roomyNames(c.Permitted), roomyNames(c.Excluded)
	policies := slices.Clone(c.Policies)
	for i, p := range policies {
		policies[i] = roomy(p, 7, 8, 9)
	}
	c.Policies = roomy(policies, []uint32{1, 2})
	return c
}

// memory is all that a say's lists have, behind their ends, too.
func memory(c api.Cert) []uint64 {
	var all []uint64
	name := func(n api.Name) {
		all = append(all, uint64(len(n)), uint64(cap(n)))
		for _, step := range n[:cap(n)] {
			all = append(all, uint64(len(step)), uint64(cap(step)))
			for _, a := range step[:cap(step)] {
				all = append(all, uint64(a.Mark), uint64(len(a.Type)), uint64(len(a.Text)))
				for _, x := range a.Type[:cap(a.Type)] {
					all = append(all, uint64(x))
				}
				for _, x := range a.Text[:cap(a.Text)] {
					all = append(all, uint64(x))
				}
			}
		}
	}
	limbs := func(l []uint32) {
		all = append(all, uint64(len(l)), uint64(cap(l)))
		for _, x := range l[:cap(l)] {
			all = append(all, uint64(x))
		}
	}
	limbs(c.Serial)
	limbs(c.Key.N)
	limbs(c.Key.E)
	name(c.Issuer)
	name(c.Subject)
	for _, l := range [][]api.Name{c.Permitted, c.Excluded} {
		for _, n := range l[:cap(l)] {
			name(n)
		}
	}
	for _, p := range c.Policies[:cap(c.Policies)] {
		limbs(p)
	}
	return all
}

func spoil(b []byte) {
	b = b[:cap(b)]
	for i := range b {
		b[i] ^= 0x55
	}
}

func spoilLimbs(l []uint32) {
	l = l[:cap(l)]
	for i := range l {
		l[i] ^= 0x55555555
	}
}

func spoilName(n api.Name) {
	for _, step := range n[:cap(n)] {
		for _, a := range step[:cap(step)] {
			spoilLimbs(a.Type)
			spoil(a.Text)
		}
		clear(step[:cap(step)])
	}
	clear(n[:cap(n)])
}

// spoilCert writes over all the memory of a say.
func spoilCert(c api.Cert) {
	spoilLimbs(c.Serial)
	spoilLimbs(c.Key.N)
	spoilLimbs(c.Key.E)
	spoilName(c.Issuer)
	spoilName(c.Subject)
	for _, l := range [][]api.Name{c.Permitted, c.Excluded} {
		for _, n := range l[:cap(l)] {
			spoilName(n)
		}
		clear(l[:cap(l)])
	}
	for _, p := range c.Policies[:cap(c.Policies)] {
		spoilLimbs(p)
	}
	clear(c.Policies[:cap(c.Policies)])
}

// told is all that the calls tell of a say, a secret, and a certificate.
type told struct {
	body, whole, issued, first, sig []byte
	say                             api.Cert
}

func tell(t *testing.T, c api.Cert, s api.Secret, b []byte) told {
	t.Helper()
	var x told
	var errs [5]error
	x.body, errs[0] = Body(c)
	x.issued, errs[1] = Issue(c, s)
	x.say, errs[2] = Decode(b)
	x.first, x.sig, errs[3] = Split(b)
	x.whole, errs[4] = Encode(x.first, x.sig)
	for _, err := range append(errs[:], Check(c), Holds(b, publicOf(s))) {
		if err != nil {
			t.Fatal(err)
		}
	}
	return x
}

func (x told) spoil() {
	for _, b := range [][]byte{x.body, x.whole, x.issued, x.first, x.sig} {
		spoil(b)
	}
	spoilCert(x.say)
}

func (x told) check(t *testing.T, c api.Cert, body, whole []byte) {
	t.Helper()
	for i, b := range [][]byte{x.body, x.first, x.issued, x.whole} {
		if want := [][]byte{body, whole}[i/2]; !bytes.Equal(b, want) {
			t.Fatalf("told bytes %d are %x, not %x", i, b, want)
		}
	}
	if !sameCert(x.say, c) || !bytes.HasSuffix(whole, x.sig) {
		t.Fatalf("told are %v, %x", x.say, x.sig)
	}
}

// P10.5, R2: nothing that is handed in is changed or kept, behind its end neither, and what is told is new memory.
func TestNothingIsChangedOrKept(t *testing.T) {
	for _, of := range []api.Cert{full(), plain()} {
		whole := issued(t, of, shortKey())
		body := words.body(of)
		c, b := roomyCert(of), roomy(whole, 1, 2, 3)
		s := api.Secret{N: roomyNat(shortKey().N), E: roomyNat(shortKey().E), D: roomyNat(shortKey().D)}
		wantMemory, wantB, wantD := memory(c), bytes.Clone(b[:cap(b)]), slices.Clone(s.D[:cap(s.D)])
		for range 3 {
			first, second := tell(t, c, s, b), tell(t, c, s, b)
			first.check(t, of, body, whole)
			first.spoil()
			second.check(t, of, body, whole)
			second.spoil()
			if !slices.Equal(memory(c), wantMemory) || !bytes.Equal(b[:cap(b)], wantB) || !slices.Equal(s.D[:cap(s.D)], wantD) {
				t.Fatal("what is handed in is changed, or shares memory with what was told")
			}
		}
		last := tell(t, c, s, b)
		spoilCert(c)
		spoil(b)
		spoilLimbs(s.N)
		spoilLimbs(s.E)
		spoilLimbs(s.D)
		last.check(t, of, body, whole)
	}
}

// P10.2, P10.5: Encode keeps neither a body nor a signature, and writes nothing behind them.
func TestEncodeKeepsNothing(t *testing.T) {
	behind := bytes.Repeat([]byte{0xaa}, 100)
	body, sig := roomy([]byte{0x30, 1, 5}, behind...), roomy([]byte{7, 8}, behind...)
	first, err := Encode(body, sig)
	if err != nil || !bytes.Equal(body[:cap(body)], append([]byte{0x30, 1, 5}, behind...)) || !bytes.Equal(sig[:cap(sig)], append([]byte{7, 8}, behind...)) {
		t.Error("a body or a signature is changed", err)
	}
	second, _ := Encode(body, sig)
	spoil(first)
	spoil(body)
	spoil(sig)
	if !bytes.Equal(second, words.certificate([]byte{0x30, 1, 5}, []byte{7, 8})) {
		t.Errorf("a certificate is %x", second)
	}
}

// P10.5, R2: no two lists of one say that is decoded share memory, nor do a body and its signature.
func TestListsOfOneSayShareNothing(t *testing.T) {
	c := full()
	c.Subject, c.Permitted, c.Excluded = c.Issuer, []api.Name{c.Issuer, c.Issuer}, []api.Name{c.Issuer, c.Issuer}
	b := issued(t, c, shortKey())
	got, err := Decode(b)
	if err != nil {
		t.Fatal(err)
	}
	next := uint32(1)
	var limbs [][]uint32
	var texts [][]byte
	fill := func(l []uint32) {
		l = l[:cap(l)]
		for i := range l {
			l[i] = next
		}
		limbs = append(limbs, l)
		next++
	}
	names := slices.Concat([]api.Name{got.Issuer, got.Subject}, got.Permitted, got.Excluded)
	for i, n := range names {
		for _, step := range n {
			for j := range step {
				fill(step[j].Type)
				text := step[j].Text[:cap(step[j].Text)]
				for k := range text {
					text[k] = byte(next)
				}
				texts = append(texts, text)
				next++
				step[j].Mark = byte(i)
			}
		}
	}
	for _, p := range got.Policies {
		fill(p)
	}
	for _, n := range [][]uint32{got.Serial, got.Key.N, got.Key.E} {
		fill(n)
	}
	for _, l := range limbs {
		if len(slices.Compact(slices.Clone(l))) > 1 {
			t.Errorf("two lists share memory: %v", l)
		}
	}
	for _, text := range texts {
		if len(slices.Compact(bytes.Clone(text))) > 1 {
			t.Errorf("two texts share memory: %v", text)
		}
	}
	for i, n := range names {
		if n[0][0].Mark != byte(i) {
			t.Errorf("the name %d shares memory", i)
		}
	}
	body, sig, err := Split(b)
	if err != nil {
		t.Fatal(err)
	}
	want := bytes.Clone(sig)
	spoil(body)
	if !bytes.Equal(sig, want) {
		t.Error("a body and a signature share memory")
	}
}

// P10.5: what is refused is left as it was, too.
func TestNothingIsChangedByWhatIsRefused(t *testing.T) {
	r := draws()
	for range 300 {
		c := roomyCert(drawnSay(r))
		c.Uses = 512
		want := memory(c)
		checkMay(t, "a say", c, false)
		if _, err := Issue(c, shortKey()); err != api.ErrArg || !slices.Equal(memory(c), want) {
			t.Errorf("a say that may not be is changed, or issued: %v", err)
		}
	}
	for _, b := range [][]byte{{}, {0x30}, {0x30, 1}, {0x30, 2, 0x30, 0}, words.certificate([]byte{0x30, 0}, nil), words.body(full())} {
		whole := roomy(b, 1, 2, 3)
		checkDecode(t, whole)
		if !bytes.Equal(whole[:cap(whole)], append(bytes.Clone(b), 1, 2, 3)) {
			t.Errorf("%x is changed", b)
		}
	}
}

// P10.5: numbers are told without limbs of 0 at their end, and what a say hasn't isn't told.
func TestWhatIsToldOfNumbersAndOfNothing(t *testing.T) {
	got, err := Decode(issued(t, roomyCert(full()), shortKey()))
	if err != nil {
		t.Fatal(err)
	}
	for _, n := range []api.Nat{got.Serial, got.Key.N, got.Key.E} {
		if len(n) == 0 || n[len(n)-1] == 0 {
			t.Errorf("a number is told as %v", n)
		}
	}
	got, err = Decode(issued(t, changed(plain(), func(c *api.Cert) { c.Subject = nil }), shortKey()))
	if err != nil || got.Authority || got.Depth != -1 || got.Uses != 0 || len(got.Subject)+len(got.Permitted)+len(got.Excluded)+len(got.Policies) > 0 {
		t.Errorf("a plain say is told as %v, %v", got, err)
	}
}

// arguments are what says of any kind are made of.
type arguments struct {
	ints     []int
	numbers  []api.Nat
	names    []api.Name
	policies [][]uint32
	moments  []api.Time
}

func someArguments() arguments {
	return arguments{
		ints:     []int{0, 1, -1, 8, 9, 511, 512, math.MaxInt, math.MinInt},
		numbers:  []api.Nat{nil, {0}, {1}, {3}, shortKey().N, power256(20, 0), power256(300, 1), make(api.Nat, 50)},
		names:    append(badNames()[:8], nil, named("a"), named("a", "b")),
		policies: [][]uint32{nil, {1}, {1, 2}, {1, 3}, {3, 3}, make([]uint32, 100)},
		moments:  moments(),
	}
}

func (a arguments) moment(r *rand.Rand) api.Time {
	if r.Intn(3) > 0 {
		return pick(r, a.moments)
	}
	return api.Time{Year: pick(r, a.ints), Month: pick(r, a.ints), Day: pick(r, a.ints), Hour: pick(r, a.ints), Minute: pick(r, a.ints), Second: pick(r, a.ints)}
}

func (a arguments) say(r *rand.Rand) api.Cert {
	name := func(r *rand.Rand) api.Name { return pick(r, a.names) }
	return api.Cert{
		Serial: pick(r, a.numbers), Issuer: name(r), Subject: name(r), From: a.moment(r), To: a.moment(r),
		Key:       api.Public{N: pick(r, a.numbers), E: pick(r, a.numbers)},
		Authority: r.Intn(2) == 0, Depth: pick(r, a.ints), Uses: pick(r, a.ints), Permitted: drawnList(r, name),
		Excluded: drawnList(r, name),
		Policies: drawnList(r, func(r *rand.Rand) []uint32 { return pick(r, a.policies) }),
	}
}

// P1: all kinds of arguments for all; what is answered with an error is nothing else.
func TestAnyArguments(t *testing.T) {
	r, all := draws(), someArguments()
	secrets := []api.Nat{nil, {1}, {0, 0, 1}, shortKey().D, power256(300, 0)}
	for range 5000 {
		c := all.say(r)
		checkSay(t, c)
		s := api.Secret{N: c.Key.N, E: c.Key.E, D: pick(r, secrets)}
		if b, err := Issue(c, s); err != nil && b != nil {
			t.Errorf("Issue tells %x beside %v", b, err)
		}
	}
	// One thing of any kind in a say that may be.
	for range 5000 {
		c, any := full(), all.say(r)
		switch r.Intn(11) {
		case 0:
			c.Serial = any.Serial
		case 1:
			c.Issuer = any.Issuer
		case 2:
			c.Subject = any.Subject
		case 3:
			c.From = any.From
		case 4:
			c.To = any.To
		case 5:
			c.Key.N = any.Key.N
		case 6:
			c.Key.E = any.Key.E
		case 7:
			c.Authority, c.Depth = any.Authority, any.Depth
		case 8:
			c.Uses = any.Uses
		case 9:
			c.Permitted, c.Excluded = any.Permitted, any.Excluded
		case 10:
			c.Policies = any.Policies
		}
		checkSay(t, c)
	}
	for n := range 3000 {
		b := randomBytes(r, n%300)
		checkDecode(t, b)
		checkEncode(t, b, b[:n%len(append(b, 0))])
		checkBody(t, "any bytes", element(0x30, b), false)
		if err := Holds(b, publicOf(shortKey())); err != api.ErrForm {
			t.Errorf("Holds of any bytes is %v", err)
		}
	}
}
