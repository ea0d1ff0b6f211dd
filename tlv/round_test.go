package tlv

import (
	"bytes"
	"math/rand"
	"testing"

	"charter/api"
)

// takenApart reads all that stands there, writes it as it is read, and tells whether it came to the end.
func takenApart(r *Reader, w *Writer) bool {
	for {
		mark, ok := r.Next()
		if !ok {
			return true
		}
		if !ofWhole(mark) {
			body, err := r.Take(mark)
			if err != nil {
				return false
			}
			w.Put(mark, body)
			continue
		}
		if r.Enter(mark) != nil {
			return false
		}
		w.Open(mark)
		if !takenApart(r, w) || r.Leave() != nil {
			return false
		}
		w.Close()
	}
}

// checkRound tells whether bytes are elements to the end; if they are, it checks that they are written as they were.
func checkRound(t *testing.T, b []byte) bool {
	t.Helper()
	r, w := NewReader(b), NewWriter()
	if !takenApart(r, w) {
		return false
	}
	checkError(t, "End of what is taken apart", r.End(), nil)
	checkWritten(t, "what was taken apart", w, b)
	return true
}

// P7.7: all bytes up to six of those that matter.
func TestAllShortBytesHaveOneForm(t *testing.T) {
	matter := []byte{0x00, 0x01, 0x02, 0x04, 0x30, 0x80, 0x81, 0x82}
	apart := 0
	var all func(b []byte)
	all = func(b []byte) {
		if checkRound(t, b) {
			apart++
		}
		if len(b) == 6 {
			return
		}
		for _, m := range matter {
			all(append(b, m))
		}
	}
	all(make([]byte, 0, 6))
	if apart < 1000 {
		t.Errorf("only %d are elements to the end", apart)
	}
}

// P7.7: elements that are so, and such with bytes turned.
func TestWhatIsTakenApartIsWrittenSo(t *testing.T) {
	r := draws()
	counts := map[bool]int{}
	for range 3000 {
		b := nested(r.Intn(4), randomTree(r, 4))
		if !checkRound(t, b) {
			t.Fatalf("%x isn't taken apart", short(b))
		}
		for range 1 + r.Intn(2) {
			if len(b) > 0 {
				b[r.Intn(len(b))] ^= 1 << r.Intn(8)
			}
		}
		counts[checkRound(t, b)]++
	}
	if counts[true] < 100 || counts[false] < 100 {
		t.Errorf("with bytes turned %d are elements, %d aren't", counts[true], counts[false])
	}
}

// P7.7: no byte less, and none more, is the same thing.
func TestAByteMoreOrLess(t *testing.T) {
	r := draws()
	for range 300 {
		b := wanted(0x30, randomTree(r, 3))
		for n := range len(b) {
			reader := NewReader(b[:n])
			if err := reader.Enter(0x30); err == nil {
				t.Fatalf("%x is entered, though %d bytes are lost", short(b), len(b)-n)
			}
		}
		for more := range 256 {
			reader := NewReader(append(bytes.Clone(b), byte(more)))
			got, err := reader.Whole()
			checkBytes(t, "Whole ahead of a byte more", got, err, b)
			checkError(t, "End ahead of a byte more", reader.End(), api.ErrMore)
		}
	}
}

// A thing is a part with a body, or a whole of things.
type thing struct {
	mark   byte
	body   []byte
	things []thing
}

func randomThings(r *rand.Rand, deep int) []thing {
	var out []thing
	for range r.Intn(4) {
		if deep > 0 && r.Intn(3) > 0 {
			out = append(out, thing{mark: marks(ofWhole)[r.Intn(124)], things: randomThings(r, deep-1)})
			continue
		}
		n := []int{0, 1, 127, 128, 255, 256, r.Intn(600)}[r.Intn(7)]
		out = append(out, thing{mark: marks(ofPart)[r.Intn(124)], body: randomBytes(r, n)})
	}
	return out
}

func write(w *Writer, things []thing) {
	for _, x := range things {
		if !ofWhole(x.mark) {
			w.Put(x.mark, x.body)
			continue
		}
		w.Open(x.mark)
		write(w, x.things)
		w.Close()
	}
}

func checkRead(t *testing.T, r *Reader, things []thing) {
	t.Helper()
	for _, x := range things {
		if mark, ok := r.Next(); mark != x.mark || !ok {
			t.Fatalf("Next is %02x, %v, not %02x", mark, ok, x.mark)
		}
		if !ofWhole(x.mark) {
			got, err := r.Take(x.mark)
			checkBytes(t, "Take of what was written", got, err, x.body)
			continue
		}
		checkError(t, "Enter of what was written", r.Enter(x.mark), nil)
		checkRead(t, r, x.things)
		checkError(t, "Leave of what was written", r.Leave(), nil)
	}
}

// P7.7: things that are as deep as may be, too.
func TestWhatWasWrittenIsReadSo(t *testing.T) {
	r := draws()
	for round := range 1000 {
		things := randomThings(r, 5)
		for range round % (api.MaxNest - 4) {
			things = []thing{{mark: 0x30, things: things}, {mark: 0x05}}
		}
		w := NewWriter()
		write(w, things)
		b, err := w.Bytes()
		if err != nil {
			t.Fatalf("%d things aren't written: %v", len(things), err)
		}
		reader := NewReader(b)
		checkRead(t, reader, things)
		checkError(t, "End of what was written", reader.End(), nil)
	}
}

// P7.7: the longest that a reader takes apart, a writer writes.
func TestTheLongestIsWrittenSo(t *testing.T) {
	b := wanted(0x04, randomBytes(draws(), api.MaxBody-4*api.MaxNest))
	for range api.MaxNest {
		b = wanted(0x30, b)
	}
	if !checkRound(t, b) || !checkRound(t, bytes.Repeat(b, 3)) {
		t.Errorf("%d bytes aren't taken apart", len(b))
	}
	if checkRound(t, wanted(0x30, b)) {
		t.Error("one whole more is taken apart")
	}
	if !checkRound(t, wanted(0x04, make([]byte, api.MaxBody))) || !checkRound(t, wanted(0x30, wanted(0x04, make([]byte, api.MaxBody-4)))) {
		t.Error("a body of MaxBody bytes isn't taken apart")
	}
}

// P7.7, P1: any bytes.
func FuzzRound(f *testing.F) {
	for _, b := range [][]byte{{}, {0x30, 3, 2, 1, 5}, {2, 0x81, 1, 5}, {0x30, 1, 0xff}, {0x30, 0x80, 0, 0}, nested(api.MaxNest, nil), nested(api.MaxNest+1, nil), wanted(4, make([]byte, 300))} {
		f.Add(b)
	}
	f.Fuzz(func(t *testing.T, b []byte) {
		checkRound(t, b)
		p := pairOf(b)
		for p.check(t, callWhole, 0) == nil {
			p.checkStands(t)
		}
	})
}

func BenchmarkReadMost(b *testing.B) {
	whole := wanted(0x30, bytes.Repeat([]byte{2, 1, 5}, api.MaxBody/3))
	for b.Loop() {
		r := NewReader(whole)
		r.Enter(0x30)
		for {
			if _, err := r.Take(2); err != nil {
				break
			}
		}
	}
}

func BenchmarkWriteMost(b *testing.B) {
	for b.Loop() {
		w := NewWriter()
		for range api.MaxNest {
			w.Open(0x30)
		}
		for range (api.MaxBody - 4*api.MaxNest) / 3 {
			w.Put(2, []byte{5})
		}
		for range api.MaxNest {
			w.Close()
		}
		w.Bytes()
	}
}
