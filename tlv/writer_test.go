package tlv

import (
	"bytes"
	"math/rand"
	"testing"

	"charter/api"
)

func checkWritten(t *testing.T, call string, w *Writer, want []byte) {
	t.Helper()
	got, err := w.Bytes()
	checkBytes(t, call, got, err, want)
}

// checkAmiss checks that a writer tells that, each time.
func checkAmiss(t *testing.T, call string, w *Writer, want error) {
	t.Helper()
	for range 2 {
		got, err := w.Bytes()
		checkRefused(t, call, got, err, want)
	}
}

// opened is a writer in which so many wholes are open.
func opened(n int) *Writer {
	w := NewWriter()
	for range n {
		w.Open(0x30)
	}
	return w
}

func closeAll(w *Writer, n int) {
	for range n {
		w.Close()
	}
}

// P7.2: the document's example, and nothing.
func TestWriterOfLittle(t *testing.T) {
	checkWritten(t, "nothing", NewWriter(), nil)
	w := NewWriter()
	w.Open(0x30)
	w.Put(0x02, []byte{5})
	w.Close()
	checkWritten(t, "Open(30), Put(02, 05), Close", w, unhex(t, "30 03 02 01 05"))
	w.Put(0x05, nil)
	w.Open(0xa0)
	w.Close()
	checkWritten(t, "and more of it", w, unhex(t, "30 03 02 01 05 05 00 a0 00"))
}

// P7.2: each mark, each length about the edges.
func TestPutOfEachMarkAndLength(t *testing.T) {
	r := draws()
	for b := range 256 {
		mark := byte(b)
		for _, n := range edges {
			body := randomBytes(r, n)
			w := NewWriter()
			w.Put(mark, body)
			if ofPart(mark) {
				checkWritten(t, "Put", w, wanted(mark, body))
			} else {
				checkAmiss(t, "Put of another mark", w, api.ErrArg)
			}
		}
	}
}

// P7.2, R1: a mark that isn't one of a part is told ahead of a body that is too long.
func TestPutOfLongBodies(t *testing.T) {
	for b := range 256 {
		for _, n := range []int{api.MaxBody + 1, api.MaxBody + 2, 2*api.MaxBody + 2} {
			want := error(api.ErrArg)
			if ofPart(byte(b)) {
				want = api.ErrLong
			}
			for _, wholes := range []int{0, 1, api.MaxNest} {
				w := opened(wholes)
				w.Put(byte(b), make([]byte, n))
				checkAmiss(t, "Put of a long body", w, want)
			}
		}
	}
}

// P7.2: one element behind the other, at the outermost and within wholes.
func TestPutsStandOneBehindTheOther(t *testing.T) {
	r := draws()
	for _, wholes := range []int{0, 1, 2, 3, api.MaxNest} {
		w, inner := opened(wholes), []byte{}
		for range 10 {
			body := randomBytes(r, r.Intn(300))
			w.Put(0x04, body)
			inner = append(inner, wanted(0x04, body)...)
		}
		closeAll(w, wholes)
		for range wholes {
			inner = wanted(0x30, inner)
		}
		checkWritten(t, "ten parts", w, inner)
	}
}

// P7.2: what is behind a whole that was closed stands in what that is in.
func TestPutBehindAWhole(t *testing.T) {
	w := NewWriter()
	w.Put(0x01, []byte{0xff})
	w.Open(0x31)
	w.Put(0x02, []byte{1})
	w.Open(0xa3)
	w.Put(0x02, []byte{2})
	w.Close()
	w.Put(0x02, []byte{3})
	w.Open(0x6e)
	w.Close()
	w.Close()
	w.Put(0x0c, []byte("ab"))
	checkWritten(t, "parts about wholes", w, unhex(t, "01 01 ff 31 0d 02 01 01 a3 03 02 01 02 02 01 03 6e 00 0c 02 61 62"))
}

// P7.2: each mark of a whole, and no other one.
func TestOpenOfEachMark(t *testing.T) {
	for b := range 256 {
		mark := byte(b)
		for _, wholes := range []int{0, 1, api.MaxNest - 1} {
			w := opened(wholes)
			w.Open(mark)
			w.Put(0x02, []byte{5})
			closeAll(w, wholes+1)
			if !ofWhole(mark) {
				checkAmiss(t, "Open of another mark", w, api.ErrArg)
				continue
			}
			want := wanted(mark, []byte{2, 1, 5})
			for range wholes {
				want = wanted(0x30, want)
			}
			checkWritten(t, "Open", w, want)
		}
	}
}

// P7.2, R1: MaxNest wholes may be open, not one more; another mark is told ahead of that.
func TestOpenOfManyWholes(t *testing.T) {
	for b := range 256 {
		w := opened(api.MaxNest)
		w.Open(byte(b))
		want := error(api.ErrArg)
		if ofWhole(byte(b)) {
			want = api.ErrDeep
		}
		checkAmiss(t, "Open of one whole more", w, want)
		closeAll(w, api.MaxNest)
		checkAmiss(t, "Open of one whole more, and all closed", w, want)
	}
}

// P7.2: it is those that are open that count.
func TestOpenBehindClosedWholes(t *testing.T) {
	w, want := NewWriter(), []byte{}
	for range 5 {
		one := []byte{}
		for range api.MaxNest {
			w.Open(0xa1)
			one = wanted(0xa1, one)
		}
		closeAll(w, api.MaxNest)
		want = append(want, one...)
	}
	checkWritten(t, "five times all that may be open", w, want)
	w = opened(api.MaxNest)
	for range 100 {
		w.Close()
		w.Open(0x30)
	}
	w.Open(0x30)
	checkAmiss(t, "one more, behind many that were closed", w, api.ErrDeep)
}

// P7.2: each length about the edges, of one whole and of wholes about it.
func TestCloseOfEachLength(t *testing.T) {
	r := draws()
	for _, n := range edges {
		for _, wholes := range []int{1, 2, api.MaxNest} {
			body := partsOf(r, n)
			w := opened(wholes)
			putAll(w, body)
			inner := bytes.Join(body, nil)
			closed := 0
			for closed < wholes && len(inner) <= api.MaxBody {
				inner = wanted(0x30, inner)
				closed++
			}
			closeAll(w, wholes)
			if closed < wholes {
				checkAmiss(t, "Close of a whole about a long one", w, api.ErrLong)
			} else {
				checkWritten(t, "Close", w, inner)
			}
		}
	}
}

// partsOf are elements of parts that are so many bytes together; of one byte there is none, and two stand for it.
func partsOf(r *rand.Rand, n int) [][]byte {
	var out [][]byte
	for n > 100 {
		out = append(out, wanted(0x04, randomBytes(r, 50)))
		n -= 52
	}
	if n == 1 {
		n = 2
	}
	if n > 0 {
		out = append(out, wanted(0x04, randomBytes(r, n-2)))
	}
	return out
}

// putAll puts elements of parts with bodies below 128 bytes.
func putAll(w *Writer, parts [][]byte) {
	for _, p := range parts {
		w.Put(p[0], p[2:])
	}
}

// P7.2: a whole's body may have MaxBody bytes, not one more.
func TestCloseOfLongBodies(t *testing.T) {
	r := draws()
	for _, wholes := range []int{1, 2, api.MaxNest} {
		for _, n := range []int{api.MaxBody + 1, api.MaxBody + 2, 100000, 200000} {
			w := opened(wholes)
			putAll(w, partsOf(r, n))
			// It is amiss only once it is closed.
			checkAmiss(t, "a long whole that is open", w, api.ErrState)
			closeAll(w, wholes)
			checkAmiss(t, "Close of a long body", w, api.ErrLong)
			w = opened(wholes)
			putAll(w, partsOf(r, n))
			w.Put(0x30, nil)
			w.Close()
			checkAmiss(t, "another fault within a long body", w, api.ErrArg)
		}
	}
	w := opened(1)
	w.Put(0x04, make([]byte, api.MaxBody-4))
	w.Close()
	checkWritten(t, "a part that fills its whole", w, wanted(0x30, wanted(0x04, make([]byte, api.MaxBody-4))))
	w = opened(1)
	w.Put(0x04, make([]byte, api.MaxBody-3))
	w.Close()
	checkAmiss(t, "a part that is too long for its whole", w, api.ErrLong)
}

// P7.2: at the outermost no bound is told.
func TestTheOutermostHasNoBound(t *testing.T) {
	body := randomBytes(draws(), api.MaxBody)
	w, want := NewWriter(), []byte{}
	for range 20 {
		w.Put(0x04, body)
		want = append(want, wanted(0x04, body)...)
	}
	checkWritten(t, "twenty long parts", w, want)
	w.Open(0x30)
	w.Close()
	checkWritten(t, "and a whole behind", w, append(want, 0x30, 0))
}

// P7.2: none is open.
func TestCloseOfNone(t *testing.T) {
	w := NewWriter()
	w.Close()
	checkAmiss(t, "Close of nothing", w, api.ErrState)
	w = NewWriter()
	w.Put(0x02, []byte{5})
	w.Close()
	checkAmiss(t, "Close behind a part", w, api.ErrState)
	for _, wholes := range []int{1, 2, api.MaxNest} {
		w = opened(wholes)
		closeAll(w, wholes+1)
		checkAmiss(t, "one Close more", w, api.ErrState)
		w.Open(0x30)
		w.Close()
		checkAmiss(t, "one Close more, and a whole behind", w, api.ErrState)
	}
}

// P7.2: that a whole is open stays not, and nothing changes.
func TestBytesOfOpenWholes(t *testing.T) {
	w := NewWriter()
	w.Put(0x02, []byte{5})
	for n := range api.MaxNest {
		w.Open(0x30)
		checkAmiss(t, "a whole more is open", w, api.ErrState)
		w.Put(0x04, []byte{byte(n)})
		checkAmiss(t, "a whole with a part is open", w, api.ErrState)
	}
	want := []byte{}
	for n := range api.MaxNest {
		checkAmiss(t, "a whole is open", w, api.ErrState)
		w.Close()
		want = wanted(0x30, append([]byte{4, 1, byte(api.MaxNest - 1 - n)}, want...))
	}
	want = append([]byte{2, 1, 5}, want...)
	checkWritten(t, "all are closed", w, want)
	checkWritten(t, "once more", w, want)
	w.Put(0x05, nil)
	checkWritten(t, "and a part behind", w, append(want, 5, 0))
}

// faults are ways in which something is amiss, and what is told of it.
func faults() []struct {
	make func() *Writer
	want error
} {
	long := make([]byte, api.MaxBody+1)
	return []struct {
		make func() *Writer
		want error
	}{
		{func() *Writer { w := opened(1); w.Put(0x30, nil); return w }, api.ErrArg},
		{func() *Writer { w := opened(0); w.Put(0x1f, nil); return w }, api.ErrArg},
		{func() *Writer { w := opened(0); w.Open(0x02); return w }, api.ErrArg},
		{func() *Writer { w := opened(1); w.Open(0x3f); return w }, api.ErrArg},
		{func() *Writer { w := opened(1); w.Put(0x04, long); return w }, api.ErrLong},
		{func() *Writer { w := opened(1); w.Put(0x04, long[1:]); w.Close(); return w }, api.ErrLong},
		{func() *Writer { return opened(api.MaxNest + 1) }, api.ErrDeep},
		{func() *Writer { w := opened(0); w.Close(); return w }, api.ErrState},
	}
}

// P7.2: once something was amiss, that stays so, whatever comes then, and whatever else is amiss.
func TestWhatWasAmissStaysSo(t *testing.T) {
	r := draws()
	for _, f := range faults() {
		w := f.make()
		checkAmiss(t, "a fault", w, f.want)
		for range 200 {
			act(w, nil, randomAct(r))
			got, err := w.Bytes()
			checkRefused(t, "what comes behind a fault", got, err, f.want)
		}
		closeAll(w, api.MaxNest+2)
		checkAmiss(t, "all closed behind a fault", w, f.want)
	}
}

// model is a writer by the document's words: each whole that is open has a body of its own.
type model struct {
	marks  []byte
	bodies [][]byte
	amiss  error
}

func (m *model) add(b []byte) {
	m.bodies[len(m.bodies)-1] = append(m.bodies[len(m.bodies)-1], b...)
}

func (m *model) put(mark byte, body []byte) {
	switch {
	case m.amiss != nil:
	case !ofPart(mark):
		m.amiss = api.ErrArg
	case len(body) > 65535:
		m.amiss = api.ErrLong
	default:
		m.add(wanted(mark, body))
	}
}

func (m *model) open(mark byte) {
	switch {
	case m.amiss != nil:
	case !ofWhole(mark):
		m.amiss = api.ErrArg
	case len(m.marks) == 24:
		m.amiss = api.ErrDeep
	default:
		m.marks, m.bodies = append(m.marks, mark), append(m.bodies, nil)
	}
}

func (m *model) close() {
	last := len(m.marks) - 1
	switch {
	case m.amiss != nil:
	case last < 0:
		m.amiss = api.ErrState
	case len(m.bodies[last+1]) > 65535:
		m.amiss = api.ErrLong
	default:
		mark, body := m.marks[last], m.bodies[last+1]
		m.marks, m.bodies = m.marks[:last], m.bodies[:last+1]
		m.add(wanted(mark, body))
	}
}

func (m *model) bytes() ([]byte, error) {
	if m.amiss != nil {
		return nil, m.amiss
	}
	if len(m.marks) > 0 {
		return nil, api.ErrState
	}
	return m.bodies[0], nil
}

// What is done with a writer: of kind 0 Put, 1 Open, 2 Close.
type done struct {
	kind int
	mark byte
	body []byte
}

// randomAct is mostly one that may be, so that much is written ahead of a fault.
func randomAct(r *rand.Rand) done {
	d := done{kind: r.Intn(3), body: randomBytes(r, r.Intn(200))}
	d.mark = marks(ofPart)[r.Intn(124)]
	if d.kind == 1 {
		d.mark = marks(ofWhole)[r.Intn(124)]
	}
	if r.Intn(30) == 0 {
		d.body = randomBytes(r, 20000)
	}
	if r.Intn(300) == 0 {
		d.mark = byte(r.Intn(256))
	}
	if r.Intn(1000) == 0 {
		d.body = make([]byte, 65536)
	}
	return d
}

func act(w *Writer, m *model, d done) {
	if m == nil {
		m = &model{bodies: [][]byte{nil}}
	}
	switch d.kind {
	case 0:
		w.Put(d.mark, d.body)
		m.put(d.mark, d.body)
	case 1:
		w.Open(d.mark)
		m.open(d.mark)
	default:
		w.Close()
		m.close()
	}
}

// P7.2, P1: whatever is done, a writer tells what the document's words make of it; each of the answers comes up.
func TestWriterByAModel(t *testing.T) {
	r := draws()
	counts := map[error]int{}
	for range 3000 {
		w, m := NewWriter(), &model{bodies: [][]byte{nil}}
		upward := r.Intn(4)
		for range 1 + r.Intn(150) {
			d := randomAct(r)
			if d.kind == 2 && (len(m.marks) == 0 && r.Intn(20) > 0 || r.Intn(4) < upward) {
				continue
			}
			act(w, m, d)
			want, wantErr := m.bytes()
			got, err := w.Bytes()
			if err != wantErr || !bytes.Equal(got, want) {
				t.Fatalf("a writer tells %x, %v, not %x, %v", short(got), err, short(want), wantErr)
			}
		}
		_, err := m.bytes()
		if m.amiss == nil && len(m.marks) > 0 {
			continue
		}
		counts[err]++
	}
	for _, want := range []error{nil, api.ErrArg, api.ErrLong, api.ErrDeep, api.ErrState} {
		if counts[want] < 20 {
			t.Errorf("%v came up %d times", want, counts[want])
		}
	}
}

// P7.6: a body isn't changed, behind its end neither, and isn't kept.
func TestPutDoesNotKeepABody(t *testing.T) {
	for _, n := range []int{0, 1, 127, 128, 256, 65535} {
		room := randomBytes(draws(), n+50)
		room0 := bytes.Clone(room)
		body := room[:n]
		w := opened(2)
		w.Put(0x04, body)
		w.Put(0x04, []byte("behind"))
		if !bytes.Equal(room, room0) {
			t.Errorf("Put changes a body of %d bytes, or what is behind it", n)
		}
		clear(room)
		w.Close()
		w.Put(0x04, nil)
		if n > 60000 {
			continue
		}
		w.Close()
		inner := wanted(0x30, append(wanted(0x04, room0[:n]), wanted(0x04, []byte("behind"))...))
		checkWritten(t, "a body that was cleared since", w, wanted(0x30, append(inner, 4, 0)))
	}
	w, first := NewWriter(), randomBytes(draws(), 100)
	w.Put(0x04, first)
	want := wanted(0x04, bytes.Clone(first))
	clear(first)
	checkWritten(t, "the first body of all, cleared since", w, want)
}

// P7.6: what is told is new memory, each time.
func TestBytesAreNewMemory(t *testing.T) {
	for _, n := range []int{0, 1, 5, 100, 1000} {
		w, want := NewWriter(), []byte{}
		for range n {
			w.Put(0x02, []byte{5})
			want = append(want, 2, 1, 5)
		}
		first, err := w.Bytes()
		checkBytes(t, "Bytes", first, err, want)
		again, _ := w.Bytes()
		clear(first[:cap(first)])
		checkBytes(t, "Bytes that were told ahead", again, nil, want)
		checkWritten(t, "Bytes again", w, want)
		// What is put then goes nowhere into what was told.
		room := bytes.Clone(again[:cap(again)])
		w.Put(0x05, nil)
		if !bytes.Equal(again[:cap(again)], room) {
			t.Errorf("what is put behind %d parts stands in what was told", n)
		}
		checkWritten(t, "a part more", w, append(want, 5, 0))
	}
}

// P7.2: two writers have nothing in common.
func TestWritersStandAlone(t *testing.T) {
	a, b := NewWriter(), NewWriter()
	a.Open(0x30)
	b.Put(0x02, []byte{1})
	a.Put(0x02, []byte{2})
	b.Close()
	a.Close()
	checkWritten(t, "one beside another", a, []byte{0x30, 3, 2, 1, 2})
	checkAmiss(t, "another one", b, api.ErrState)
	checkWritten(t, "a new one", NewWriter(), nil)
}
