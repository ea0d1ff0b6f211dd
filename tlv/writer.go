package tlv

import (
	"bytes"
	"slices"

	"charter/api"
)

// Writer writes elements.
type Writer struct {
	written []byte
	// Where the marks of the wholes that are open stand, from the outermost on; their lengths aren't written yet.
	open  []int
	amiss error
}

// NewWriter is a writer: P7.2.
func NewWriter() *Writer { return &Writer{} }

// Put writes a part: P7.2.
func (w *Writer) Put(mark byte, body []byte) {
	if w.amiss != nil {
		return
	}
	if !isPart(mark) {
		w.fail(api.ErrArg)
		return
	}
	head, err := Head(mark, len(body))
	if err != nil {
		w.fail(err)
		return
	}
	w.written = append(w.written, head...)
	w.written = append(w.written, body...)
}

// Open opens a whole: P7.2.
func (w *Writer) Open(mark byte) {
	if w.amiss != nil {
		return
	}
	if !isWhole(mark) {
		w.fail(api.ErrArg)
		return
	}
	if len(w.open) >= api.MaxNest {
		w.fail(api.ErrDeep)
		return
	}
	w.open = append(w.open, len(w.written))
	w.written = append(w.written, mark)
}

// Close closes it: P7.2.
func (w *Writer) Close() {
	if w.amiss != nil {
		return
	}
	innermost := len(w.open) - 1
	if innermost < 0 {
		w.fail(api.ErrState)
		return
	}
	at := w.open[innermost]
	head, err := Head(w.written[at], len(w.written)-at-1)
	if err != nil {
		w.fail(err)
		return
	}
	w.written = slices.Replace(w.written, at, at+1, head...)
	w.open = w.open[:innermost]
}

// Bytes is what was written: P7.2.
func (w *Writer) Bytes() ([]byte, error) {
	if w.amiss != nil {
		return nil, w.amiss
	}
	if len(w.open) > 0 {
		return nil, api.ErrState
	}
	return bytes.Clone(w.written), nil
}

// fail lets go of what was written, as nobody can ask for it any more.
func (w *Writer) fail(err error) { *w = Writer{amiss: err} }
