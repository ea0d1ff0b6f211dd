package tlv

import (
	"bytes"

	"charter/api"
)

// Reader reads elements.
type Reader struct {
	// What stands there.
	rest []byte
	// What stands behind each whole that it is in, from the outermost on.
	behind [][]byte
}

// NewReader is a reader of bytes: P7.3.
func NewReader(b []byte) *Reader { return &Reader{rest: bytes.Clone(b)} }

// Next is the mark that comes next: P7.3.
func (r *Reader) Next() (byte, bool) {
	if len(r.rest) == 0 {
		return 0, false
	}
	return r.rest[0], true
}

// Take takes a part: P7.4.
func (r *Reader) Take(mark byte) ([]byte, error) {
	e, err := r.marked(mark, isPart(mark))
	if err != nil {
		return nil, err
	}
	r.rest = e.behind
	return bytes.Clone(e.body), nil
}

// Enter enters a whole: P7.4.
func (r *Reader) Enter(mark byte) error {
	e, err := r.marked(mark, isWhole(mark))
	if err != nil {
		return err
	}
	if len(r.behind) >= api.MaxNest {
		return api.ErrDeep
	}
	r.rest, r.behind = e.body, append(r.behind, e.behind)
	return nil
}

// Leave leaves it: P7.5.
func (r *Reader) Leave() error {
	innermost := len(r.behind) - 1
	if innermost < 0 {
		return api.ErrState
	}
	if len(r.rest) > 0 {
		return api.ErrMore
	}
	r.rest, r.behind = r.behind[innermost], r.behind[:innermost]
	return nil
}

// Whole takes an element as it is: P7.4.
func (r *Reader) Whole() ([]byte, error) {
	e, err := elementOf(r.rest)
	if err != nil {
		return nil, err
	}
	r.rest = e.behind
	return bytes.Clone(e.all), nil
}

// End tells whether all is read: P7.5.
func (r *Reader) End() error {
	if len(r.behind) > 0 {
		return api.ErrState
	}
	if len(r.rest) > 0 {
		return api.ErrMore
	}
	return nil
}

// marked is the element that stands there, if it has that mark, and the mark is of the kind that is asked for.
func (r *Reader) marked(mark byte, ofKind bool) (element, error) {
	if first, ok := r.Next(); ok && first != mark {
		return element{}, api.ErrKind
	}
	e, err := elementOf(r.rest)
	if err != nil {
		return element{}, err
	}
	if !ofKind {
		return element{}, api.ErrForm
	}
	return e, nil
}

// element shares the memory of the bytes that it begins: all of it, its body, and what is behind it.
type element struct{ all, body, behind []byte }

// elementOf is the element that b begins with.
func elementOf(b []byte) (element, error) {
	if len(b) == 0 {
		return element{}, api.ErrNone
	}
	n := lengthOf(b)
	// A length in more bytes than it needs, and one that is cut off, aren't what Head makes.
	head, err := Head(b[0], n)
	if err != nil || !bytes.HasPrefix(b, head) || n > len(b)-len(head) {
		return element{}, api.ErrForm
	}
	end := len(head) + n
	return element{b[:end], b[len(head):end], b[end:]}, nil
}

// lengthOf is the length that stands behind a mark; where none does, any number.
func lengthOf(b []byte) int {
	switch {
	case len(b) > 3 && b[1] == inTwo:
		return int(b[2])<<8 | int(b[3])
	case len(b) > 2 && b[1] == inOne:
		return int(b[2])
	case len(b) > 1:
		return int(b[1])
	}
	return 0
}
