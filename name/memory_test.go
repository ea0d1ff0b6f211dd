package name

import (
	"bytes"
	"slices"
	"testing"

	"charter/api"
)

// roomy is the same list, with something behind its end, within its capacity.
func roomy[T any](l []T, behind ...T) []T {
	return slices.Concat(l, behind)[: len(l) : len(l)+len(behind)]
}

// roomyName is a name with memory behind each of its lists.
func roomyName() api.Name {
	attr := func(kind []uint32, mark byte, text string) api.Attr {
		return api.Attr{Type: roomy(kind, 7, 8), Mark: mark, Text: roomy([]byte(text), ' ', 'X')}
	}
	kind := []uint32{2, 5, 4, 3}
	return roomy(api.Name{
		roomy([]api.Attr{attr([]uint32{1, 2, 840, 113549}, 0x13, "A"), attr(kind, 0x0c, " B  b ")}, attr(kind, 0x0c, "behind")),
		roomy([]api.Attr{attr(kind, 0x13, "Ab")}),
	}, []api.Attr{attr(kind, 0x0c, "behind")})
}

// sameMemory tells whether two names, and what stands behind each of their lists, are the same.
func sameMemory(a, b api.Name) bool {
	return slices.EqualFunc(a[:cap(a)], b[:cap(b)], func(x, y []api.Attr) bool {
		return slices.EqualFunc(x[:cap(x)], y[:cap(y)], func(v, w api.Attr) bool {
			return slices.Equal(v.Type[:cap(v.Type)], w.Type[:cap(w.Type)]) && v.Mark == w.Mark && bytes.Equal(v.Text[:cap(v.Text)], w.Text[:cap(w.Text)])
		})
	})
}

// spoilName writes over all the memory of a name.
func spoilName(n api.Name) {
	for _, step := range n[:cap(n)] {
		for _, a := range step[:cap(step)] {
			for i := range a.Type[:cap(a.Type)] {
				a.Type[:cap(a.Type)][i] ^= 0x55
			}
			spoil(a.Text)
		}
		clear(step[:cap(step)])
	}
	clear(n[:cap(n)])
}

func spoil(b []byte) {
	b = b[:cap(b)]
	for i := range b {
		b[i] ^= 0x55
	}
}

// told is what the calls tell of a name, of bytes and of a text.
type told struct {
	written, plain []byte
	read           api.Name
}

func tell(t *testing.T, n api.Name, b, text []byte) told {
	t.Helper()
	var x told
	var err, readErr error
	x.written, err = Write(n)
	x.read, readErr = Read(b)
	x.plain = Plain(text)
	if err != nil || readErr != nil || Check(n) != nil || !Alike(n, n) || !Within(n, n[:1]) {
		t.Fatal(err, readErr)
	}
	return x
}

// P9.4, R2: nothing that is handed in is changed or kept, behind its end neither, and what is told is new memory.
func TestNothingIsChangedOrKept(t *testing.T) {
	n := roomyName()
	whole, err := Write(n)
	if err != nil {
		t.Fatal(err)
	}
	b, text := roomy(whole, 1, 2, 3), roomy([]byte("ab c"), ' ', 'X')
	wantB, wantText := bytes.Clone(b[:cap(b)]), bytes.Clone(text[:cap(text)])
	for range 3 {
		first, second := tell(t, n, b, text), tell(t, n, b, text)
		spoil(first.written)
		spoil(first.plain)
		spoilName(first.read)
		if !bytes.Equal(second.written, whole) || !sameName(second.read, roomyName()) || string(second.plain) != "ab c" {
			t.Fatalf("two answers share memory: %x, %v, %q", second.written, second.read, second.plain)
		}
		if !sameMemory(n, roomyName()) || !bytes.Equal(b[:cap(b)], wantB) || !bytes.Equal(text[:cap(text)], wantText) {
			t.Fatal("what is handed in is changed, or shares memory with what was told")
		}
	}
	last := tell(t, n, b, text)
	spoilName(n)
	spoil(b)
	spoil(text)
	if !bytes.Equal(last.written, whole) || !sameName(last.read, roomyName()) || string(last.plain) != "ab c" {
		t.Error("what was told is changed with what was handed in")
	}
}

// P9.4, R2: no two lists of a name that is read share memory.
func TestListsOfOneNameShareNothing(t *testing.T) {
	b, err := Write(longest())
	if err != nil {
		t.Fatal(err)
	}
	n, err := Read(b)
	if err != nil {
		t.Fatal(err)
	}
	for i := range n {
		for j := range n[i] {
			a := &n[i][j]
			a.Type = append(a.Type, 9)[:16]
			a.Text = append(a.Text, 9)[:64]
			a.Type[15] = uint32(4*i + j)
			a.Text[63] = byte(4*i + j)
		}
		n[i] = append(n[i], api.Attr{})[:4]
	}
	n = append(n, nil)[:8]
	for i := range n {
		for j, a := range n[i] {
			if a.Type[15] != uint32(4*i+j) || a.Text[63] != byte(4*i+j) || a.Type[0] != 2 || a.Text[0] != "abcd"[j] {
				t.Fatalf("the attribute %d of the step %d is %v", j, i, a)
			}
		}
	}
}

// P9.4: what is refused, and what isn't alike, is left as it was, too.
func TestNothingIsChangedByWhatIsRefused(t *testing.T) {
	unlike := func() api.Name {
		n := roomyName()
		n[1][0].Text = roomy([]byte("  Z Z"), 'Z')
		n[0][0], n[0][1] = n[0][1], n[0][0]
		return n
	}
	n := unlike()
	checkMay(t, n, false)
	if Alike(n, roomyName()) || Within(n, roomyName()) || !Within(n, roomyName()[:1]) || !sameMemory(n, unlike()) {
		t.Error("a name that may not be is changed")
	}
	for _, b := range [][]byte{{}, {0x30}, {0x30, 1}, {0x30, 2, 0x31, 0}, {0x30, 0, 0}, bytes.Repeat([]byte{0x30, 4, 6, 2}, 50)} {
		whole := roomy(b, 1, 2, 3)
		checkNone(t, whole)
		if !bytes.Equal(whole[:cap(whole)], append(bytes.Clone(b), 1, 2, 3)) {
			t.Errorf("%x is changed", b)
		}
	}
}

// P1: all kinds of arguments for all; what is answered with an error is nothing else.
func TestAnyArguments(t *testing.T) {
	r := draws()
	attrs := []api.Attr{{}, word(0, ""), word(0x0c, "a"), word(0x13, "\xff"), {Type: make([]uint32, 1000)}, {Text: make([]byte, 1000), Mark: 0x0c}, {Type: []uint32{1 << 31, 1 << 31}, Mark: 0xff}}
	drawn := func() api.Name {
		var n api.Name
		for range r.Intn(4) {
			var step []api.Attr
			for range r.Intn(4) {
				step = append(step, pick(r, attrs))
			}
			n = append(n, step)
		}
		return n
	}
	for range 3000 {
		a, b := drawn(), drawn()
		checkName(t, a)
		checkPair(t, a, b)
	}
	for n := range 3000 {
		b := make([]byte, n%200)
		r.Read(b)
		checkPlain(t, b)
		if name, err := Read(b); err != nil && name != nil {
			t.Errorf("Read tells %v beside %v", name, err)
		}
	}
}
