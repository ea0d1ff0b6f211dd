package prim

import (
	"bytes"
	"math"
	"slices"
	"testing"

	"charter/api"
)

// roomy is the same list, with something behind its end, within its capacity.
func roomy[T any](l []T, behind ...T) []T { return slices.Concat(l, behind)[:len(l)] }

// told is all that the calls tell of what they are handed.
type told struct {
	bodies [][]byte
	number api.Nat
	oid    []uint32
	bits   api.Bits
	sorted [][]byte
}

// copied shares no memory with what it is of.
func (x told) copied() told {
	y := told{number: slices.Clone(x.number), oid: slices.Clone(x.oid), bits: api.Bits{B: bytes.Clone(x.bits.B), Unused: x.bits.Unused}}
	for _, b := range x.bodies {
		y.bodies = append(y.bodies, bytes.Clone(b))
	}
	for _, b := range x.sorted {
		y.sorted = append(y.sorted, bytes.Clone(b))
	}
	return y
}

func (x told) same(y told) bool {
	return slices.EqualFunc(x.bodies, y.bodies, bytes.Equal) && slices.Equal(x.number, y.number) && slices.Equal(x.oid, y.oid) &&
		bytes.Equal(x.bits.B, y.bits.B) && x.bits.Unused == y.bits.Unused && slices.EqualFunc(x.sorted, y.sorted, bytes.Equal)
}

// spoil writes over all the memory of what was told, but for that of sorted bodies, which may be what was handed in.
func (x told) spoil() {
	for _, b := range append(x.bodies, x.bits.B) {
		b = b[:cap(b)]
		for i := range b {
			b[i] ^= 0x55
		}
	}
	for _, l := range [][]uint32{x.number[:cap(x.number)], x.oid[:cap(x.oid)]} {
		for i := range l {
			l[i] ^= 0x55
		}
	}
	clear(x.sorted[:cap(x.sorted)])
}

// handed is what is handed in, with memory behind each list.
type handed struct {
	n                         api.Nat
	l                         []uint32
	bits                      []byte
	number, oid, read, moment []byte
	set                       [][]byte
}

func newHanded() handed {
	return handed{
		n:      roomy(api.Nat{5, 6, 0x80000000, 0}, 7, 8),
		l:      roomy([]uint32{1, 2, 840, 113549}, 1, 1, 11),
		bits:   roomy([]byte{1, 2, 0x80}, 3, 4),
		number: roomy([]byte{0, 0x85, 6, 7}, 8),
		oid:    roomy([]byte{0x2a, 0x86, 0x48}, 0x86, 0xf7, 0x0d),
		read:   roomy([]byte{3, 1, 2, 0x88}, 0xff),
		moment: roomy([]byte("491231235959Z"), 'Z', 'Z'),
		set:    roomy([][]byte{roomy([]byte{2}, 9), nil, roomy([]byte{1}, 8), {2}}, []byte{0}),
	}
}

func (h handed) same(o handed) bool {
	bodies := func(h handed) [][]byte { return [][]byte{h.bits, h.number, h.oid, h.read, h.moment} }
	whole := func(b []byte) []byte { return b[:cap(b)] }
	for i, b := range bodies(h) {
		if !bytes.HasPrefix(whole(bodies(o)[i]), whole(b)) {
			return false
		}
	}
	for i, b := range h.set[:cap(h.set)] {
		if !bytes.Equal(whole(b), whole(o.set[:cap(o.set)][i])) {
			return false
		}
	}
	return slices.Equal(h.n[:cap(h.n)], o.n[:cap(o.n)]) && slices.Equal(h.l[:cap(h.l)], o.l[:cap(o.l)])
}

func (h handed) tell(t *testing.T) told {
	t.Helper()
	var x told
	keep := func(b []byte, err error) {
		if err != nil {
			t.Fatal(err)
		}
		x.bodies = append(x.bodies, b)
	}
	keep(Int(-129), nil)
	keep(Int(0), nil)
	keep(Big(h.n))
	keep(Big(nil))
	keep(Oid(h.l))
	keep(Bits(api.Bits{B: h.bits, Unused: 7}))
	_, body, err := Time(api.Time{Year: 2050, Month: 1, Day: 1})
	keep(body, err)
	var errs [5]error
	x.number, errs[0] = ReadBig(h.number)
	x.oid, errs[1] = ReadOid(h.oid)
	x.bits, errs[2] = ReadBits(h.read)
	_, errs[3] = ReadTime(0x17, h.moment)
	errs[4] = Text(0x13, h.moment)
	if errs != [5]error{} {
		t.Fatal(errs)
	}
	x.sorted = Sorted(h.set)
	return x
}

// P8.6, R2: nothing that is handed in is changed or kept, behind its end neither, and what is told is new memory.
func TestNothingIsChangedOrKept(t *testing.T) {
	h := newHanded()
	h.oid = h.oid[:6]
	before := newHanded()
	before.oid = before.oid[:6]
	first := h.tell(t)
	want := first.copied()
	if want.oid[2] != 840 || want.bits.Unused != 3 || len(want.sorted) != 4 || want.number[0] != 0x850607 {
		t.Fatal(want)
	}
	for range 3 {
		next := h.tell(t)
		if !next.same(want) || !first.same(want) || !h.same(before) {
			t.Fatal("what is handed in or was told is changed by a call")
		}
		first.spoil()
		if !next.same(want) {
			t.Fatal("two answers share memory")
		}
		if !h.same(before) {
			t.Fatal("an answer shares memory with what was handed in")
		}
		first = next
	}
	for _, b := range [][]byte{h.bits, h.number, h.oid, h.read, h.moment} {
		clear(b[:cap(b)])
	}
	clear(h.n)
	clear(h.l)
	clear(h.set)
	if !first.same(want) {
		t.Error("what was told is changed with what was handed in")
	}
}

// P8.6: readers that refuse change nothing either.
func TestNothingIsChangedByWhatIsRefused(t *testing.T) {
	for _, body := range [][]byte{{0, 1}, {0xff, 0xff}, {9, 1}, {1, 1}, {0x80, 1}, []byte("4912312359Z"), bytes.Repeat([]byte{7}, 300)} {
		b := roomy(body, 1, 2, 3)
		before := bytes.Clone(b[:cap(b)])
		ReadInt(b)
		ReadBig(b)
		ReadOid(b)
		ReadBits(b)
		ReadTime(0x17, b)
		Text(0x13, b)
		Bits(api.Bits{B: b, Unused: 7})
		if !bytes.Equal(b[:cap(b)], before) {
			t.Errorf("%x is changed to %x", short(before), short(b))
		}
	}
}

// P1: all kinds of arguments for all; what is answered with an error is nothing else.
func TestAnyArguments(t *testing.T) {
	r := draws()
	bodies := [][]byte{nil, {}, make([]byte, 1), make([]byte, 70000), bytes.Repeat([]byte{0xff}, 70000), bytes.Repeat([]byte{0x80}, 70000), bytes.Repeat([]byte{'0'}, 70000)}
	for n := range 2000 {
		bodies = append(bodies, randomBytes(r, n%40))
	}
	for _, b := range bodies {
		if n, err := ReadInt(b); err != nil && n != 0 {
			t.Errorf("ReadInt tells %d beside %v", n, err)
		}
		if n, err := ReadBig(b); err != nil && n != nil {
			t.Errorf("ReadBig tells %x beside %v", n, err)
		}
		if l, err := ReadOid(b); err != nil && l != nil {
			t.Errorf("ReadOid tells %d beside %v", l, err)
		}
		if x, err := ReadBits(b); err != nil && (x.B != nil || x.Unused != 0) {
			t.Errorf("ReadBits tells %v beside %v", x, err)
		}
		for mark := range 256 {
			if x, err := ReadTime(byte(mark), b); err != nil && x != (api.Time{}) {
				t.Errorf("ReadTime tells %v beside %v", x, err)
			}
			Text(byte(mark), b[:min(len(b), 100)])
		}
	}
	wild := []int{math.MinInt, math.MinInt32, -1, 0, 1, 2, 12, 31, 59, 9999, 10000, math.MaxInt32, math.MaxInt}
	for range 200000 {
		pick := func() int { return wild[r.Intn(len(wild))] }
		at := api.Time{Year: pick(), Month: pick(), Day: pick(), Hour: pick(), Minute: pick(), Second: pick()}
		if mark, body, err := Time(at); err != nil && (mark != 0 || body != nil) {
			t.Errorf("Time tells %02x, %x beside %v", mark, body, err)
		}
		if n, err := Count(at); err != nil && n != 0 {
			t.Errorf("Count tells %d beside %v", n, err)
		}
		At(int64(pick()))
		At(int64(r.Uint64()))
		Int(int64(r.Uint64()))
	}
}
