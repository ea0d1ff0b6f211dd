package tlv

import (
	"bytes"
	"encoding/asn1"
	"math/rand"
	"slices"
	"testing"

	"charter/api"
)

// begun tells by the document's words, of the element that b begins with, how many bytes are ahead of its body, and how
// many it has in all; false, if none begins there.
func begun(b []byte) (int, int, bool) {
	if len(b) < 2 || isNone(b[0]) {
		return 0, 0, false
	}
	ahead, n := 2, int(b[1])
	switch {
	case n == 0x81 && len(b) > 2 && b[2] > 127:
		ahead, n = 3, int(b[2])
	case n == 0x82 && len(b) > 3 && b[2] > 0:
		ahead, n = 4, 256*int(b[2])+int(b[3])
	case n > 127:
		return 0, 0, false
	}
	return ahead, ahead + n, len(b) >= ahead+n
}

// readerModel is a reader by the document's words: where it stands, and where the wholes that it is in end.
type readerModel struct {
	b    []byte
	at   int
	ends []int
}

// left is what stands there.
func (m *readerModel) left() []byte {
	if len(m.ends) == 0 {
		return m.b[m.at:]
	}
	return m.b[m.at:m.ends[len(m.ends)-1]]
}

func (m *readerModel) next() (byte, bool) {
	if len(m.left()) == 0 {
		return 0, false
	}
	return m.left()[0], true
}

func (m *readerModel) marked(mark byte, kind func(byte) bool) (int, int, error) {
	if len(m.left()) == 0 {
		return 0, 0, api.ErrNone
	}
	if m.left()[0] != mark {
		return 0, 0, api.ErrKind
	}
	ahead, all, ok := begun(m.left())
	if !ok || !kind(mark) {
		return 0, 0, api.ErrForm
	}
	return ahead, all, nil
}

func (m *readerModel) take(mark byte) ([]byte, error) {
	ahead, all, err := m.marked(mark, ofPart)
	if err != nil {
		return nil, err
	}
	body := m.left()[ahead:all]
	m.at += all
	return body, nil
}

func (m *readerModel) enter(mark byte) error {
	ahead, all, err := m.marked(mark, ofWhole)
	if err != nil {
		return err
	}
	if len(m.ends) == 24 {
		return api.ErrDeep
	}
	m.ends = append(m.ends, m.at+all)
	m.at += ahead
	return nil
}

func (m *readerModel) whole() ([]byte, error) {
	if len(m.left()) == 0 {
		return nil, api.ErrNone
	}
	_, all, ok := begun(m.left())
	if !ok {
		return nil, api.ErrForm
	}
	element := m.left()[:all]
	m.at += all
	return element, nil
}

func (m *readerModel) leave() error {
	if len(m.ends) == 0 {
		return api.ErrState
	}
	if len(m.left()) > 0 {
		return api.ErrMore
	}
	m.ends = m.ends[:len(m.ends)-1]
	return nil
}

func (m *readerModel) end() error {
	if len(m.ends) > 0 {
		return api.ErrState
	}
	if len(m.left()) > 0 {
		return api.ErrMore
	}
	return nil
}

// pair is a reader, and how it is by the document's words.
type pair struct {
	r *Reader
	m *readerModel
}

func pairOf(b []byte) pair { return pair{NewReader(b), &readerModel{b: bytes.Clone(b)}} }

// The calls of a reader.
const (
	callNext = iota
	callTake
	callEnter
	callWhole
	callLeave
	callEnd
	callKinds
)

// check does one call with both, and holds the answers against each other.
func (p pair) check(t *testing.T, kind int, mark byte) error {
	t.Helper()
	var got, want []byte
	var err, wantErr error
	switch kind {
	case callNext:
		first, ok := p.r.Next()
		if wantFirst, wantOk := p.m.next(); first != wantFirst || ok != wantOk {
			t.Fatalf("Next is %02x, %v, not %02x, %v, in %x", first, ok, wantFirst, wantOk, short(p.m.b))
		}
	case callTake:
		got, err = p.r.Take(mark)
		want, wantErr = p.m.take(mark)
	case callEnter:
		err, wantErr = p.r.Enter(mark), p.m.enter(mark)
	case callWhole:
		got, err = p.r.Whole()
		want, wantErr = p.m.whole()
	case callLeave:
		err, wantErr = p.r.Leave(), p.m.leave()
	case callEnd:
		err, wantErr = p.r.End(), p.m.end()
	}
	if err != wantErr || !bytes.Equal(got, want) || err != nil && got != nil {
		t.Fatalf("call %d of %02x at %d in %x is %x, %v, not %x, %v", kind, mark, p.m.at, short(p.m.b), short(got), err, short(want), wantErr)
	}
	return err
}

// checkStands checks what a reader stands ahead of, by calls that leave it there.
func (p pair) checkStands(t *testing.T) {
	t.Helper()
	p.check(t, callNext, 0)
	p.check(t, callEnd, 0)
	first, _ := p.m.next()
	p.check(t, callTake, first^1)
	p.check(t, callEnter, first^1)
}

// P7.4: the document's examples.
func TestReaderOfLittle(t *testing.T) {
	r := NewReader(unhex(t, "02 81 01 05"))
	got, err := r.Take(0x02)
	checkRefused(t, "Take of a long length", got, err, api.ErrForm)
	r = NewReader(unhex(t, "30 01 ff"))
	got, err = r.Whole()
	checkBytes(t, "Whole of 30 01 ff", got, err, unhex(t, "30 01 ff"))
	r = NewReader(unhex(t, "30 01 ff"))
	checkError(t, "Enter of 30 01 ff", r.Enter(0x30), nil)
	if first, ok := r.Next(); first != 0xff || !ok {
		t.Errorf("behind it Next is %02x, %v", first, ok)
	}
	got, err = r.Whole()
	checkRefused(t, "Whole of ff", got, err, api.ErrForm)
	got, err = r.Take(0xff)
	checkRefused(t, "Take of ff", got, err, api.ErrForm)
	checkError(t, "Enter of ff", r.Enter(0xff), api.ErrForm)
	checkError(t, "Leave ahead of ff", r.Leave(), api.ErrMore)
	checkError(t, "End ahead of ff", r.End(), api.ErrState)
}

// P7.3 to P7.5: of no bytes nothing stands there.
func TestReaderOfNothing(t *testing.T) {
	for _, b := range [][]byte{nil, {}, []byte{2, 1, 5}[:0]} {
		for mark := range 256 {
			p := pairOf(b)
			for kind := range callKinds {
				p.check(t, kind, byte(mark))
			}
		}
		r := NewReader(b)
		if first, ok := r.Next(); first != 0 || ok {
			t.Errorf("Next of nothing is %02x, %v", first, ok)
		}
		got, err := r.Take(0x02)
		checkRefused(t, "Take of nothing", got, err, api.ErrNone)
		got, err = r.Whole()
		checkRefused(t, "Whole of nothing", got, err, api.ErrNone)
		checkError(t, "Enter of nothing", r.Enter(0x30), api.ErrNone)
		checkError(t, "Leave of nothing", r.Leave(), api.ErrState)
		checkError(t, "End of nothing", r.End(), nil)
	}
}

// P7.3: whatever byte stands there, a mark or none, and whether an element begins with it or not.
func TestNextOfEachByte(t *testing.T) {
	for b := range 256 {
		for _, behind := range [][]byte{nil, {0}, {5, 1}, {0x80, 0, 0}} {
			r := NewReader(append([]byte{byte(b)}, behind...))
			for range 2 {
				if first, ok := r.Next(); first != byte(b) || !ok {
					t.Errorf("Next of %02x is %02x, %v", b, first, ok)
				}
			}
		}
	}
}

// P7.3, P7.4: each mark where each byte stands.
func TestEachMarkWhereEachByteStands(t *testing.T) {
	for first := range 256 {
		for mark := range 256 {
			for _, behind := range [][]byte{{0}, {2, 5, 0}, {3, 5, 0}, {}} {
				b := append([]byte{byte(first)}, behind...)
				pairOf(b).check(t, callTake, byte(mark))
				pairOf(b).check(t, callEnter, byte(mark))
			}
		}
		b := []byte{byte(first), 1, 7}
		body, err := NewReader(b).Take(byte(first))
		all, wholeErr := NewReader(b).Whole()
		enterErr := NewReader(b).Enter(byte(first))
		switch {
		case isNone(byte(first)):
			checkRefused(t, "Take of no mark", body, err, api.ErrForm)
			checkRefused(t, "Whole of no mark", all, wholeErr, api.ErrForm)
			checkError(t, "Enter of no mark", enterErr, api.ErrForm)
		case ofWhole(byte(first)):
			checkRefused(t, "Take of a whole", body, err, api.ErrForm)
			checkBytes(t, "Whole of a whole", all, wholeErr, b)
			checkError(t, "Enter of a whole", enterErr, nil)
		default:
			checkBytes(t, "Take of a part", body, err, []byte{7})
			checkBytes(t, "Whole of a part", all, wholeErr, b)
			checkError(t, "Enter of a part", enterErr, api.ErrForm)
		}
	}
}

// P7.4: bodies of each length, with something behind them, nothing, and too few bytes.
func TestReaderOfEachLength(t *testing.T) {
	r := draws()
	lengths := slices.Clone(edges)
	for n := range 600 {
		lengths = append(lengths, n)
	}
	for _, n := range lengths {
		body := randomBytes(r, n)
		part, whole := wanted(0x04, body), wanted(0x30, body)
		for _, behind := range [][]byte{nil, {0}, {2, 1, 5}, part} {
			reader := NewReader(append(bytes.Clone(part), behind...))
			got, err := reader.Take(0x04)
			checkBytes(t, "Take", got, err, body)
			checkRest(t, reader, behind)
			reader = NewReader(append(bytes.Clone(whole), behind...))
			got, err = reader.Whole()
			checkBytes(t, "Whole", got, err, whole)
			checkRest(t, reader, behind)
			reader = NewReader(append(bytes.Clone(whole), behind...))
			checkError(t, "Enter", reader.Enter(0x30), nil)
			checkRest(t, reader, body)
		}
		for _, cut := range []int{1, 2, 3, n/2 + 1, n, n + 1} {
			if cut == 0 || cut >= len(part) {
				continue
			}
			got, err := NewReader(part[:len(part)-cut]).Take(0x04)
			checkRefused(t, "Take of what is cut off", got, err, api.ErrForm)
			got, err = NewReader(whole[:len(whole)-cut]).Whole()
			checkRefused(t, "Whole of what is cut off", got, err, api.ErrForm)
			checkError(t, "Enter of what is cut off", NewReader(whole[:len(whole)-cut]).Enter(0x30), api.ErrForm)
		}
	}
}

// checkRest checks what stands there, by how long it is: as elements, or by its first byte.
func checkRest(t *testing.T, r *Reader, rest []byte) {
	t.Helper()
	p := pair{r, &readerModel{b: rest}}
	p.check(t, callNext, 0)
	for p.check(t, callWhole, 0) == nil {
		p.check(t, callNext, 0)
	}
}

// P7.4: each way to tell a length, with as many bytes behind it as any may have; only the shortest way may be.
func TestReaderOfEachFormOfALength(t *testing.T) {
	behind := randomBytes(draws(), api.MaxBody+10)
	forms := [][]byte{}
	for b := range 256 {
		forms = append(forms, []byte{byte(b)}, []byte{0x81, byte(b)})
		for _, low := range []byte{0, 1, 127, 128, 255} {
			forms = append(forms, []byte{0x82, byte(b), low}, []byte{0x83, 0, byte(b), low}, []byte{0x84, 0, 0, byte(b), low})
		}
	}
	for low := range 256 {
		forms = append(forms, []byte{0x82, 0, byte(low)}, []byte{0x82, 1, byte(low)}, []byte{0x83, 0, 0, byte(low)})
	}
	counts := map[bool]int{}
	for _, form := range forms {
		for _, mark := range []byte{0x04, 0x30} {
			b := append(append([]byte{mark}, form...), behind...)
			p := pairOf(b)
			err := p.check(t, callWhole, 0)
			p.checkStands(t)
			pairOf(b).check(t, callTake, mark)
			pairOf(b).check(t, callEnter, mark)
			counts[err == nil]++
		}
	}
	if counts[true] < 1000 || counts[false] < 1000 {
		t.Errorf("%d lengths may be, %d may not", counts[true], counts[false])
	}
	for _, form := range []string{"80", "80 00 00", "81 00", "81 05", "81 7f", "82 00 80", "82 00 ff", "83 00 01 00", "83 01 00 00", "84 00 00 01 00", "ff"} {
		got, err := NewReader(append(append([]byte{4}, unhex(t, form)...), behind...)).Take(4)
		checkRefused(t, "Take of the length "+form, got, err, api.ErrForm)
	}
	for n, form := range map[int]string{0: "00", 127: "7f", 128: "81 80", 255: "81 ff", 256: "82 01 00", 65535: "82 ff ff"} {
		got, err := NewReader(append(append([]byte{4}, unhex(t, form)...), behind...)).Take(4)
		checkBytes(t, "Take of the length "+form, got, err, behind[:n])
	}
}

// P7.3 to P7.5, P1: all bytes up to five of those that matter, by all calls.
func TestReaderOfAllShortBytes(t *testing.T) {
	matter := []byte{0x00, 0x01, 0x02, 0x03, 0x1f, 0x30, 0x7f, 0x80, 0x81, 0x82, 0xff}
	all := [][]byte{{}}
	for ahead := 0; len(all[ahead]) < 5; ahead++ {
		for _, b := range matter {
			all = append(all, append(bytes.Clone(all[ahead]), b))
		}
	}
	for _, b := range all {
		first := byte(0x30)
		if len(b) > 0 {
			first = b[0]
		}
		p := pairOf(b)
		if p.check(t, callEnter, first) == nil {
			p.checkStands(t)
			p.check(t, callWhole, 0)
			p.checkStands(t)
			p.check(t, callLeave, 0)
			p.checkStands(t)
		}
		p = pairOf(b)
		for p.check(t, callTake, first) == nil {
			p.checkStands(t)
			first, _ = p.m.next()
		}
		p.checkStands(t)
		p.check(t, callWhole, 0)
	}
}

// P7.4, R1: that nothing stands there is told ahead of all else, another mark ahead of a form.
func TestReaderTellsTheFirstError(t *testing.T) {
	for mark := range 256 {
		r := NewReader([]byte{0x30, 0})
		checkError(t, "Enter", r.Enter(0x30), nil)
		got, err := r.Take(byte(mark))
		checkRefused(t, "Take in an empty whole", got, err, api.ErrNone)
		checkError(t, "Enter in an empty whole", r.Enter(byte(mark)), api.ErrNone)
		got, err = r.Whole()
		checkRefused(t, "Whole in an empty whole", got, err, api.ErrNone)
		for _, first := range []byte{0x02, 0x30, 0x1f, 0xff} {
			if first == byte(mark) {
				continue
			}
			for _, behind := range [][]byte{{}, {0x80}, {5, 1}, {0x81, 1, 1}, {0}} {
				b := append([]byte{first}, behind...)
				got, err = NewReader(b).Take(byte(mark))
				checkRefused(t, "Take of another mark", got, err, api.ErrKind)
				checkError(t, "Enter of another mark", NewReader(b).Enter(byte(mark)), api.ErrKind)
			}
		}
	}
}

// nested is so many wholes, one in the other, about b; each has something behind it.
func nested(n int, b []byte) []byte {
	for range n {
		b = append(wanted(0x30, b), 0x05, 0x00)
	}
	return b
}

// entered is a reader that entered so many wholes of these.
func entered(t *testing.T, n int, b []byte) *Reader {
	t.Helper()
	r := NewReader(nested(n, b))
	for range n {
		checkError(t, "Enter", r.Enter(0x30), nil)
	}
	return r
}

// P7.4, R1: a reader is in MaxNest wholes at most; all else is told ahead of that.
func TestEnterOfManyWholes(t *testing.T) {
	for n := range api.MaxNest {
		r := entered(t, n, []byte{0x30, 0})
		checkError(t, "Enter of one more", r.Enter(0x30), nil)
		checkError(t, "Leave", r.Leave(), nil)
	}
	r := entered(t, api.MaxNest, []byte{0xa0, 0})
	checkError(t, "Enter in MaxNest wholes", r.Enter(0xa0), api.ErrDeep)
	checkError(t, "Enter of another mark", r.Enter(0x30), api.ErrKind)
	got, err := r.Whole()
	checkBytes(t, "Whole in MaxNest wholes", got, err, []byte{0xa0, 0})
	checkError(t, "Enter of nothing", r.Enter(0xa0), api.ErrNone)
	for range api.MaxNest {
		checkError(t, "Leave", r.Leave(), nil)
		got, err = r.Take(0x05)
		checkBytes(t, "Take behind a whole", got, err, nil)
	}
	checkError(t, "End", r.End(), nil)
	for _, b := range [][]byte{{0x30, 1}, {0x30}, {0x30, 0x80}, {0x30, 0x81, 1, 1}, {0x02, 1, 5}, {0x3f, 0}} {
		checkError(t, "Enter where none begins, in MaxNest wholes", entered(t, api.MaxNest, b).Enter(b[0]), api.ErrForm)
	}
	got, err = entered(t, api.MaxNest, []byte{2, 1, 5}).Take(2)
	checkBytes(t, "Take in MaxNest wholes", got, err, []byte{5})
}

// P7.4: it is those that it is in that count.
func TestEnterOfWholesThatItLeft(t *testing.T) {
	one := []byte{}
	for range api.MaxNest {
		one = wanted(0xa1, one)
	}
	r := NewReader(bytes.Repeat(one, 3))
	for range 3 {
		for range api.MaxNest {
			checkError(t, "Enter", r.Enter(0xa1), nil)
		}
		for range api.MaxNest {
			checkError(t, "Leave", r.Leave(), nil)
		}
	}
	checkError(t, "End", r.End(), nil)
}

// P7.3, P7.4: a body ends within what stands there, though the bytes go on behind the whole.
func TestAnElementEndsWithinItsWhole(t *testing.T) {
	for n := range 300 {
		for _, mark := range []byte{0x04, 0x30} {
			inner := wanted(mark, make([]byte, n))
			for _, cut := range []int{0, 1, n/2 + 1, n, n + 1} {
				if cut >= len(inner) {
					continue
				}
				// The inner element's last bytes stand behind the whole.
				b := append(wanted(0x31, inner[:len(inner)-cut]), inner[len(inner)-cut:]...)
				for _, kind := range []int{callTake, callEnter, callWhole} {
					p := pairOf(append(b, 0, 0, 0))
					p.check(t, callEnter, 0x31)
					err := p.check(t, kind, mark)
					if cut > 0 && err != api.ErrForm {
						t.Errorf("an element of %d bytes, %d of them outside, is %v", len(inner), cut, err)
					}
					p.checkStands(t)
				}
			}
		}
	}
}

// P7.4: of a whole, what its body has isn't looked at.
func TestAWholesBodyIsNotLookedAt(t *testing.T) {
	for b := range 256 {
		for _, body := range [][]byte{{byte(b)}, {0x02, byte(b)}, {byte(b), 0x85, 1, 2}} {
			whole := wanted(0x30, body)
			got, err := NewReader(whole).Whole()
			checkBytes(t, "Whole", got, err, whole)
			r := NewReader(whole)
			checkError(t, "Enter", r.Enter(0x30), nil)
			if first, ok := r.Next(); first != body[0] || !ok {
				t.Errorf("Next in %x is %02x, %v", whole, first, ok)
			}
		}
	}
}

// P7.5
func TestLeaveAndEnd(t *testing.T) {
	r := NewReader(unhex(t, "30 08 02 01 05 30 03 02 01 06 05 00"))
	checkError(t, "Leave at the outermost", r.Leave(), api.ErrState)
	checkError(t, "End ahead of all", r.End(), api.ErrMore)
	checkError(t, "Enter", r.Enter(0x30), nil)
	checkError(t, "Leave ahead of a part", r.Leave(), api.ErrMore)
	checkError(t, "End in a whole, ahead of a part", r.End(), api.ErrState)
	got, err := r.Take(0x02)
	checkBytes(t, "Take", got, err, []byte{5})
	checkError(t, "Enter", r.Enter(0x30), nil)
	checkError(t, "Leave ahead of a part", r.Leave(), api.ErrMore)
	got, err = r.Take(0x02)
	checkBytes(t, "Take", got, err, []byte{6})
	checkError(t, "End in wholes, ahead of nothing", r.End(), api.ErrState)
	checkError(t, "Leave", r.Leave(), nil)
	checkError(t, "End in a whole, ahead of nothing", r.End(), api.ErrState)
	checkError(t, "Leave", r.Leave(), nil)
	checkError(t, "Leave at the outermost", r.Leave(), api.ErrState)
	checkError(t, "End ahead of the last part", r.End(), api.ErrMore)
	got, err = r.Take(0x05)
	checkBytes(t, "Take", got, err, nil)
	checkError(t, "Leave behind all", r.Leave(), api.ErrState)
	for range 2 {
		checkError(t, "End behind all", r.End(), nil)
	}
	if first, ok := r.Next(); first != 0 || ok {
		t.Errorf("Next behind all is %02x, %v", first, ok)
	}
	r = NewReader([]byte{0xff})
	checkError(t, "End ahead of what is no element", r.End(), api.ErrMore)
}

// P7.5: with an error a reader stands where it stood.
func TestAnErrorLeavesAReaderWhereItStood(t *testing.T) {
	b := unhex(t, "31 0c 02 01 05 a0 03 04 01 06 1f 02 81 00 05 00")
	for range 3 {
		p := pairOf(b)
		for _, step := range []struct {
			kind int
			mark byte
		}{{callEnter, 0x31}, {callTake, 0x02}, {callEnter, 0xa0}, {callTake, 0x04}, {callLeave, 0}, {callEnd, 0}} {
			for mark := range 256 {
				if byte(mark) == step.mark {
					continue
				}
				for _, kind := range []int{callNext, callTake, callEnter, callEnd} {
					if first, _ := p.m.next(); first != byte(mark) {
						p.check(t, kind, byte(mark))
					}
				}
				if len(p.m.left()) > 0 {
					p.check(t, callLeave, 0)
				}
			}
			p.check(t, step.kind, step.mark)
		}
		// Where no element begins, no call goes on.
		for range 3 {
			for kind := range callKinds {
				for _, mark := range []byte{0x1f, 0x02, 0x30} {
					if err := p.check(t, kind, mark); err == nil && kind != callNext {
						t.Errorf("call %d of %02x goes on where no element begins", kind, mark)
					}
				}
			}
		}
	}
}

// randomTree is elements one behind the other, of wholes up to so deep.
func randomTree(r *rand.Rand, deep int) []byte {
	out := []byte{}
	for range r.Intn(5) {
		if deep > 0 && r.Intn(2) == 0 {
			body := randomTree(r, deep-1)
			out = append(out, wanted(marks(ofWhole)[r.Intn(124)], body[:min(len(body), api.MaxBody)])...)
			continue
		}
		n := r.Intn(10)
		if r.Intn(10) == 0 {
			n = r.Intn(400)
		}
		out = append(out, wanted(marks(ofPart)[r.Intn(124)], randomBytes(r, n))...)
	}
	return out
}

// P7.3 to P7.5, P1: whatever is done with whatever bytes, a reader tells what the document's words make of it.
func TestReaderByAModel(t *testing.T) {
	r := draws()
	counts := map[int]map[error]int{}
	for kind := range callKinds {
		counts[kind] = map[error]int{}
	}
	for range 4000 {
		b, deep := randomTree(r, 3), 0
		if r.Intn(3) == 0 {
			deep = api.MaxNest + r.Intn(2)
			b = nested(deep, b)
		}
		for range r.Intn(3) {
			if len(b) > 0 {
				b[r.Intn(len(b))] = byte(r.Intn(256))
			}
		}
		p := pairOf(b)
		for range deep {
			counts[callEnter][p.check(t, callEnter, 0x30)]++
		}
		for range 100 {
			kind := r.Intn(callKinds)
			mark, _ := p.m.next()
			if r.Intn(5) == 0 {
				mark = byte(r.Intn(256))
			}
			counts[kind][p.check(t, kind, mark)]++
		}
	}
	for kind, want := range map[int][]error{
		callTake:  {nil, api.ErrNone, api.ErrKind, api.ErrForm},
		callEnter: {nil, api.ErrNone, api.ErrKind, api.ErrForm, api.ErrDeep},
		callWhole: {nil, api.ErrNone, api.ErrForm},
		callLeave: {nil, api.ErrState, api.ErrMore},
		callEnd:   {nil, api.ErrState, api.ErrMore},
	} {
		for _, err := range want {
			if counts[kind][err] < 20 {
				t.Errorf("call %d was %v %d times", kind, err, counts[kind][err])
			}
		}
	}
}

// P7.4: as Go's own encoding reads them.
func TestReaderAsGoReadsIt(t *testing.T) {
	r := draws()
	for range 2000 {
		b := randomTree(r, 3)
		reader := NewReader(b)
		for len(b) > 0 {
			var raw asn1.RawValue
			rest, err := asn1.Unmarshal(b, &raw)
			if err != nil {
				t.Fatal(err)
			}
			mark, _ := reader.Next()
			if int(mark>>6) != raw.Class || int(mark&0x1f) != raw.Tag || mark&0x20 != 0 != raw.IsCompound {
				t.Errorf("Next of %x is %02x", short(b), mark)
			}
			if !raw.IsCompound && r.Intn(2) == 0 {
				got, err := reader.Take(mark)
				checkBytes(t, "Take", got, err, raw.Bytes)
			} else {
				got, err := reader.Whole()
				checkBytes(t, "Whole", got, err, raw.FullBytes)
			}
			b = rest
		}
		checkError(t, "End", reader.End(), nil)
	}
}

// P7.6: a reader reads the bytes as they were when it was made, and changes none.
func TestReaderReadsTheBytesAsTheyWere(t *testing.T) {
	b := unhex(t, "30 0a 02 01 05 31 05 04 03 01 02 03 a0 02 05 00 05 00 ee ee")
	room, room0 := b[:18], bytes.Clone(b)
	r := NewReader(room)
	checkError(t, "Enter", r.Enter(0x30), nil)
	got, err := r.Take(0x02)
	checkBytes(t, "Take", got, err, []byte{5})
	if !bytes.Equal(b, room0) {
		t.Error("a reader changes the bytes, or what is behind them")
	}
	clear(b)
	checkError(t, "Enter of what was cleared since", r.Enter(0x31), nil)
	got, err = r.Take(0x04)
	checkBytes(t, "Take of what was cleared since", got, err, []byte{1, 2, 3})
	checkError(t, "Leave", r.Leave(), nil)
	checkError(t, "Leave", r.Leave(), nil)
	got, err = r.Whole()
	checkBytes(t, "Whole of what was cleared since", got, err, unhex(t, "a0 02 05 00"))
	got, err = r.Take(0x05)
	checkBytes(t, "Take of what was cleared since", got, err, nil)
	checkError(t, "End", r.End(), nil)
	if !bytes.Equal(b, make([]byte, len(b))) {
		t.Error("a reader changes the bytes")
	}
}

// P7.6: what is told is new memory: nobody sees what is written there, within its capacity neither.
func TestWhatAReaderTellsIsNewMemory(t *testing.T) {
	spoil := func(b []byte) {
		b = b[:cap(b)]
		for i := range b {
			b[i] = 0xee
		}
	}
	b := unhex(t, "04 02 01 02 30 07 04 02 03 04 04 01 05 04 01 06")
	b0 := bytes.Clone(b)
	r := NewReader(b)
	first, err := r.Take(0x04)
	checkBytes(t, "Take", first, err, []byte{1, 2})
	spoil(first)
	checkError(t, "Enter", r.Enter(0x30), nil)
	all, err := r.Whole()
	checkBytes(t, "Whole", all, err, []byte{4, 2, 3, 4})
	spoil(all)
	last, err := r.Take(0x04)
	checkBytes(t, "Take", last, err, []byte{5})
	spoil(last)
	checkError(t, "Leave", r.Leave(), nil)
	behind, err := r.Whole()
	checkBytes(t, "Whole", behind, err, []byte{4, 1, 6})
	if !bytes.Equal(b, b0) {
		t.Error("what is told is what was handed in")
	}
	none, err := NewReader([]byte{5, 0, 4, 1, 6}).Take(5)
	checkBytes(t, "Take of no bytes", none, err, nil)
}

// P7.3: two readers of the same bytes have nothing in common.
func TestReadersStandAlone(t *testing.T) {
	b := unhex(t, "30 03 02 01 05")
	one, other := NewReader(b), NewReader(b)
	checkError(t, "Enter", one.Enter(0x30), nil)
	got, err := one.Take(0x02)
	checkBytes(t, "Take", got, err, []byte{5})
	got, err = other.Whole()
	checkBytes(t, "Whole of another reader", got, err, b)
	checkError(t, "End in a whole", one.End(), api.ErrState)
	checkError(t, "End of another reader", other.End(), nil)
}
